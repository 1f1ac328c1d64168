/- The document's reader of a flow mapping. · The document's reader of a node on a line: a mapping. · The document's reader of a node on a line: a plain scalar. · The document's reader of a node on a line: nothing, ahead of a byte. · The document's reader of a node on a line: nothing, at the end. · The document's reader of a node on a line. · The document's reader of a text as a node. -/
import Derived.Test.YtcddlconcngjlaaQJ
import Derived.Deep.CutRange
import Derived.Deep.DeepCutAuto
import Derived.Test.YtcddlconcngjlaaQE
import Derived.Test.YtcddlconcngjlaaQB
import Derived.Test.YtcddlconcngjlaaQC
import Derived.Test.YtcddlconcngjlaaQA
set_option linter.unusedSimpArgs false
set_option linter.unusedVariables false
namespace Go.Proofs.Ytcddlconcngjlaa
open Go.RowKit
set_option linter.unusedVariables false
set_option linter.unusedSimpArgs false
set_option maxRecDepth 100000
section
variable {w : World} {A : Option Addr} {n c : Nat} {b : List Int}
set_option maxHeartbeats 8000000 in
theorem map_at (E : REnv w A n c b) {f : Nat} (C : RNodeC w A n c b f) (W : World) (hw : Below w.heap.size w W) (s : Nat) (hs : s + 1 ≤ n) (d : Int) (hd0 : 0 ≤ d) (hd1 : d < 64) (hf : (64 - (d + 1)).toNat = f) (x : Nd) (hxk : x.kind = 3) (hkd : x.kids = []) :
    Calls Try.prog 91 #[.slice A n c, .int .i64 ((s : Int) + 1), .agg (ndC (x, .slice none 0 0)).toArray, .int .i64 d] W (InsP W x (inColl (inPair (inNode f b true) b) b 125 s 1)) := by
  have hn := E.small
  have hnc := E.le
  have hcm := E.cap
  have HE := Lib.hid E
  have HC := Lib.hid C
  have HW := Lib.hid hw
  obtain ⟨tg, htg⟩ : ∃ t, strOfNums x.tag = t := ⟨_, rfl⟩
  obtain ⟨an, han⟩ : ∃ t, strOfNums x.anchor = t := ⟨_, rfl⟩
  obtain ⟨vl, hvl⟩ : ∃ t, strOfNums x.value = t := ⟨_, rfl⟩
  have hcx : (ndC (x, .slice none 0 0)).toArray = #[.int .i64 3, .int .i64 x.style, .string tg, .string an, .string vl, .int .i64 (x.st : Int), .int .i64 (x.en : Int), .int .i64 (x.hd : Int), .int .i64 (x.mr : Int), .slice none 0 0] := by
    rw [← htg, ← han, ← hvl, ← hxk]; rfl
  rw [hcx]
  have HCX := Lib.hid hcx
  have HKD := Lib.hid hkd
  obtain ⟨i0, hi0⟩ : ∃ i0, s + 1 = i0 := ⟨_, rfl⟩
  have hz0 : (s : Int) + 1 = (i0 : Int) := by omega
  rw [hz0]
  have HI0 := Lib.hid hi0
  have hi0n : i0 ≤ n := by omega
  obtain ⟨A0, hsl0, -, hrd0⟩ := slice_l _ n c i0 b HE.out.len HE.out.le HE.out.nil (by omega)
  obtain ⟨a, ha⟩ : ∃ a, inBlk b i0 = a := ⟨_, rfl⟩
  obtain ⟨kk0, hkk0⟩ : ∃ k, blkF (b.drop i0) = k := ⟨_, rfl⟩
  have hsum0 : ((i0 : Nat) : Int) + (kk0 : Int) = (a : Int) := by rw [← ha, ← hkk0]; unfold inBlk; omega
  have hle0 : a ≤ n := by rw [← ha, ← HE.out.len]; exact blk_le (by rw [HE.out.len]; omega)
  have hge0 : i0 ≤ a := by rw [← ha]; exact blk_ge b _
  have HBL0 := Lib.hid (And.intro ha hkk0)
  have HRD0 := Lib.hid hrd0
  clear ha hkk0 hrd0
  clear E C hw hxk hkd hcx htg han hvl hz0 hi0 hs
  go_enter Try.func91, Try.ntmps91
  go_upto_region 5 with fail
  obtain ⟨W1, hW1⟩ : ∃ W1, W.alloc (.cells #[.int .i64 3, .int .i64 x.style, .string tg, .string an, .string vl, .int .i64 (x.st : Int), .int .i64 (x.en : Int), .int .i64 (x.hd : Int), .int .i64 (x.mr : Int), .slice none 0 0] 41) = W1 := ⟨_, rfl⟩
  obtain ⟨gx, hgx⟩ : ∃ g, W.heap.size = g := ⟨_, rfl⟩
  have bx : Box W1 gx [.int .i64 3, .int .i64 x.style, .string tg, .string an, .string vl, .int .i64 (x.st : Int), .int .i64 (x.en : Int), .int .i64 (x.hd : Int), .int .i64 (x.mr : Int), .slice none 0 0] := by rw [← hW1, ← hgx]; exact Box.new W _
  have hb1 : Below W.heap.size W W1 := by rw [← hW1]; exact (Below.refl _ _).alloc (Nat.le_refl _) _
  have hs1 : W1.heap.size = gx + 1 := by rw [← hW1, ← hgx]; simp
  rw [hW1, hgx]
  obtain ⟨B, hB⟩ : ∃ B, gx + 1 = B := ⟨_, rfl⟩
  rw [hB]
  rw [hB] at hs1
  have hone := Nds.one (B := W1.heap.size) W1 (Nat.le_refl _) x HKD.out
  rw [HCX.out] at hone
  obtain ⟨W2, hW2⟩ : ∃ W2, W1.alloc (.cells #[.int .i64 3, .int .i64 x.style, .string tg, .string an, .string vl, .int .i64 (x.st : Int), .int .i64 (x.en : Int), .int .i64 (x.hd : Int), .int .i64 (x.mr : Int), .slice none 0 0] 41) = W2 := ⟨_, rfl⟩
  have hb2 : Below W1.heap.size W1 W2 := by rw [← hW2]; exact (Below.refl _ _).alloc (Nat.le_refl _) _
  rw [hW2] at hone
  have hone2 : Nds W1.heap.size W2 (.slice (some ⟨B, 0, none⟩) 1 1) [(x, .slice none 0 0)] := by rw [← hs1]; exact hone
  rw [hW2]
  have HS1 := Lib.hid (And.intro hs1 (And.intro hB hgx))
  have HBX := Lib.hid bx
  have HB1 := Lib.hid hb1
  have HB2 := Lib.hid hb2
  have H2 := Lib.hid hone2
  have HW1 : Hid (Below w.heap.size w W1) := below_step HW.out hb1
  have HW2 : Hid (Below w.heap.size w W2) := below_step HW1.out hb2
  have HWW : Hid (∀ V, Below W1.heap.size W1 V → Below w.heap.size w V ∧ Below W.heap.size W V ∧ Box V gx [.int .i64 3, .int .i64 x.style, .string tg, .string an, .string vl, .int .i64 (x.st : Int), .int .i64 (x.en : Int), .int .i64 (x.hd : Int), .int .i64 (x.mr : Int), .slice none 0 0]) := fun V hV => ⟨below_step HW1.out hV, below_step HB1.out hV, HBX.out.below hV⟩
  clear hW1 hW2 hgx hB hs1 bx hb1 hb2 hone hone2
  obtain ⟨r, hres⟩ : ∃ r, inColl (inPair (inNode f b true) b) b 125 s 1 = r := ⟨_, rfl⟩
  have HRES := Lib.hid hres
  have hr0 : ∀ tt : Bool, tt = true → r = if (tt = true ∧ b.getD a 0 = 125) then .ok ([], lst [], a + 1) else inLoop (inPair (inNode f b true) b) b 125 (b.length + 1) a (1 + ([] : List NK).length) [] (lst []) := by
    intro tt htt
    rw [← hres]; unfold inColl; rw [HI0.out, HBL0.out.1]
    by_cases h : b.getD a 0 = 125
    · rw [if_pos h, if_pos ⟨htt, h⟩]; rfl
    · rw [if_neg h, if_neg (fun e => h e.2)]; rfl
  have HR0 := Lib.hid hr0
  have hidm : inBlk b a = a := by rw [← HBL0.out.1]; exact blk_idem b i0
  have HID := Lib.hid hidm
  clear hres hr0 hidm
  go_wp2_with fail
  refine (refBlanks_any A0 (n - i0) (c - i0) (b.drop i0) W2 (by rw [List.length_drop, HE.out.len]) (by omega) (by omega) (HRD0.out _ (HE.out.rd.below HW2.out))).mono ?_
  rintro e w' ⟨rfl, rfl⟩
  rw [HBL0.out.2]
  go_wp2_with fail
  go_loopg [1, 12, 13] (n - a) (fun G u1 u12 u13 V => ∃ (sc Gf m g cap : Nat) (ks : List Nat) (k8 : Value) (Q : List NK) (fst : Bool), sc + G = n ∧ u1 = .int .i64 (sc : Int) ∧ u12 = .slice (some ⟨g, 0, none⟩) m cap ∧ m ≤ cap ∧ cap ≤ 9223372036854775807 ∧ u13 = .bool fst ∧
    Hid (r = (if fst = true ∧ b.getD sc 0 = 125 then .ok (ks, lst Q, sc + 1) else inLoop (inPair (inNode f b true) b) b 125 (Gf + 1) sc (1 + Q.length) ks (lst Q)) ∧ n - sc ≤ Gf ∧ inBlk b sc = sc ∧ m = 1 + Q.length ∧ Nds W1.heap.size V (.slice (some ⟨g, 0, none⟩) m cap) (({ x with kids := ks }, k8) :: Q) ∧ Below W1.heap.size W1 V ∧ 1 + Q.length ≤ sc + 1 ∧ ks.length ≤ sc + 1))
  case atStart => exact ⟨a, b.length, 1, B, 1, [], .slice none 0 0, [], true, by omega, rfl, rfl, Nat.le_refl _, by omega, rfl, HR0.out true rfl, by rw [HE.out.len]; omega, HID.out, rfl, by have := H2.out; rw [← HKD.out]; exact this, HB2.out, by simp, by simp⟩
  case round =>
    obtain ⟨sc, Gf, mz, gz, capz, ksz, k8z, Qz, fst, hsc, rfl, rfl, hmcz, hcapz, rfl, HK⟩ := hrel
    obtain ⟨Vz, hV⟩ : ∃ x, x = wr := ⟨_, rfl⟩
    subst hV
    clear HR0 HID HBL0 HRD0 HB2 H2 HW2 HCX hi0n
    have HVBz : Hid (Below W1.heap.size W1 Vz) := HK.out.2.2.2.2.2.1
    have bkz := (HWW.out Vz HVBz.out).2.2.cell 0 _ rfl
    have hscn : sc ≤ n := by omega
    have hbz : blkF (b.drop sc) = 0 := by have := HK.out.2.2.1; unfold inBlk at this; omega
    have HBZ := Lib.hid hbz
    have HNz : Hid (Nds W1.heap.size Vz (.slice (some ⟨gz, 0, none⟩) mz capz) (({ x with kids := ksz }, k8z) :: Qz)) := HK.out.2.2.2.2.1
    have hmQz : 1 + Qz.length = mz := HK.out.2.2.2.1.symm
    have hgf : n - sc ≤ Gf := HK.out.2.1
    have hsz1z : 1 + Qz.length ≤ sc + 1 := HK.out.2.2.2.2.2.2.1
    have hsz2z : ksz.length ≤ sc + 1 := HK.out.2.2.2.2.2.2.2
    obtain ⟨t, ht⟩ : ∃ t, (fst && (decide (sc < n) && (b.getD sc 0 == 125))) = t := ⟨_, rfl⟩
    have hrt : (t = true → r = .ok (ksz, lst Qz, sc + 1)) ∧ (t = false → r = inLoop (inPair (inNode f b true) b) b 125 (Gf + 1) sc (1 + Qz.length) ksz (lst Qz)) := by
      have h := HK.out.1
      constructor
      · intro e
        rw [e] at ht
        simp only [Bool.and_eq_true, decide_eq_true_eq, beq_iff_eq] at ht
        rw [h, if_pos ⟨ht.1, ht.2.2⟩]
      · intro e
        rw [e] at ht
        rw [h, if_neg]
        rintro ⟨h1, h2⟩
        have h3 : sc < n := by rw [← HE.out.len]; exact getD_lt (by rw [h2]; decide)
        rw [h1, h2, decide_eq_true h3] at ht
        exact Bool.noConfusion ht
    have HT := Lib.hid ht
    have HRT := Lib.hid hrt
    have hmposz : 0 < mz := by omega
    have hmposIz : (0 : Int) < (mz : Int) := by omega
    have hmnez : ¬ mz = 0 := by omega
    clear hbz ht hrt HK
    go_upto_region 8 with fail
    go_cut [48] from 34 to 48 (fun v U => v = .bool t ∧ Vz = U)
    case first =>
      cases fst with
      | false =>
        have ht := HT.out
        simp only [Bool.false_and] at ht
        subst ht
        go_wp2_with fail
        go_meet
        exact ⟨rfl, rfl⟩
      | true =>
        by_cases hlt : sc < n
        · obtain ⟨aA, oA, hA, hcA⟩ := (HE.out.rd.below (HWW.out Vz HVBz.out).1).addr (by rw [HE.out.len]; omega)
          have cA := hcA sc (by rw [HE.out.len]; exact hlt)
          subst hA
          have dlt : (sc : Int) < (n : Int) := by omega
          have ht := HT.out
          rw [decide_eq_true hlt] at ht
          simp only [Bool.true_and] at ht
          clear hcA
          generalize b.getD sc 0 = xb at cA ht
          subst ht
          go_wp2_with fail
          go_meet
          exact ⟨rfl, rfl⟩
        · have dlt : ¬ (sc : Int) < (n : Int) := by omega
          have dlt' : decide ((sc : Int) < (n : Int)) = false := decide_eq_false dlt
          have ht := HT.out
          rw [decide_eq_false hlt] at ht
          simp only [Bool.true_and, Bool.false_and] at ht
          subst ht
          go_wp2_with fail
          go_meet
          exact ⟨rfl, rfl⟩
    case rest =>
      obtain ⟨rfl, rfl⟩ := hcut
      cases t with
      | true =>
        have hr := HRT.out.1 rfl
        have HR := Lib.hid hr
        obtain ⟨c6, f6, h6⟩ := HNz.out.endAt (by rw [List.length_cons]; omega) (sc + 1) ((sc : Int) + 1) (by omega)
        have H6 := Lib.hid h6
        have hg8 : W1.heap.size ≤ gz := (HNz.out.blockB (k := gz) rfl).1
        clear hr h6 HT HRT
        go_wp2_with fail
        go_ret3
        rw [HRES.out, HR.out]
        exact ⟨_, _, rfl, H6.out.low HB1.out.size, rfl, ((HWW.out _ HVBz.out).2.1).setCell (p := ⟨gz, 6, none⟩) (Nat.le_trans HB1.out.size hg8) _⟩
      | false =>
        have hr := HRT.out.2 rfl
        rw [rloop_succ] at hr
        clear HT HRT
        obtain ⟨rk, hrk⟩ : ∃ rk, inKey b sc = rk := ⟨_, rfl⟩
        have EV : REnv Vz A n c b := ⟨HE.out.len, HE.out.le, HE.out.cap, HE.out.nil, HE.out.byte, HE.out.rd.below (HWW.out Vz HVBz.out).1, HE.out.small⟩
        have HKA := Lib.hid (rkey_at EV (Below.refl _ _) hscn)
        rw [hrk] at HKA
        unfold inPair at hr
        rw [hrk] at hr
        have HRK := Lib.hid hrk
        have HRA := Lib.hid hr
        clear hr hrk EV
        go_wp2_with fail
        refine HKA.out.mono ?_
        clear HKA
        intro e V1 h1
        cases rk with
        | none =>
          obtain ⟨rfl, hb1⟩ := h1
          have hre : r = .error 2 := HRA.out
          have HRE := Lib.hid hre
          have HB5 := Lib.hid hb1
          clear hre hb1
          go_wp2_with fail
          go_ret3
          rw [HRES.out, HRE.out]
          exact ⟨rfl, (below_step (HWW.out Vz HVBz.out).2.1 HB5.out).alloc (below_step (HWW.out Vz HVBz.out).2.1 HB5.out).size _, by decide⟩
        | some kn =>
          obtain ⟨k, n1⟩ := kn
          obtain ⟨rfl, hb1⟩ := h1
          have hks := key_size (by rw [HE.out.len]; exact hscn) HRK.out
          rw [HE.out.len] at hks
          have hn1 : n1 ≤ n := hks.2
          have hn1s : sc < n1 := hks.1
          have hkk : k.kids = [] := key_kids HRK.out
          obtain ⟨kt, hkt⟩ : ∃ t, strOfNums k.tag = t := ⟨_, rfl⟩
          obtain ⟨ka, hka⟩ : ∃ t, strOfNums k.anchor = t := ⟨_, rfl⟩
          obtain ⟨kv, hkv⟩ : ∃ t, strOfNums k.value = t := ⟨_, rfl⟩
          have hck : (ndC (k, .slice none 0 0)).toArray = #[.int .i64 k.kind, .int .i64 k.style, .string kt, .string ka, .string kv, .int .i64 (k.st : Int), .int .i64 (k.en : Int), .int .i64 (k.hd : Int), .int .i64 (k.mr : Int), .slice none 0 0] := by rw [← hkt, ← hka, ← hkv]; rfl
          have hckl : ndC (k, .slice none 0 0) = [.int .i64 k.kind, .int .i64 k.style, .string kt, .string ka, .string kv, .int .i64 (k.st : Int), .int .i64 (k.en : Int), .int .i64 (k.hd : Int), .int .i64 (k.mr : Int), .slice none 0 0] := by rw [← hkt, ← hka, ← hkv]; rfl
          rw [hck]
          have HCK0 := Lib.hid (And.intro hck (And.intro hckl hkk))
          have HB10 := Lib.hid (And.intro hb1 hks)
          clear hck hckl hkk hkt hka hkv hb1 hks
          go_upto_region 12 with fail
          obtain ⟨hck, hckl, hkk⟩ := HCK0.out
          obtain ⟨hb1, hks⟩ := HB10.out
          have hone1 := Nds.one (B := V1.heap.size) V1 (Nat.le_refl _) k hkk
          rw [hck] at hone1
          obtain ⟨Va, hVa⟩ : ∃ Va, V1.alloc (.cells #[.int .i64 k.kind, .int .i64 k.style, .string kt, .string ka, .string kv, .int .i64 (k.st : Int), .int .i64 (k.en : Int), .int .i64 (k.hd : Int), .int .i64 (k.mr : Int), .slice none 0 0] 41) = Va := ⟨_, rfl⟩
          have hba : Below Vz.heap.size Vz Va := by rw [← hVa]; exact hb1.alloc hb1.size _
          have hva1 : V1.heap.size < Va.heap.size := by rw [← hVa]; simp
          rw [hVa] at hone1
          rw [hVa]
          obtain ⟨gk, hgk⟩ : ∃ gz, V1.heap.size = gz := ⟨_, rfl⟩
          rw [hgk] at hone1
          rw [hgk]
          have HBA := Lib.hid hba
          have HONE := Lib.hid hone1
          have hVB1 : Below W1.heap.size W1 Va := below_step HVBz.out hba
          have HVA := Lib.hid hVB1
          have hgkV : Vz.heap.size ≤ gk := by rw [← hgk]; exact hb1.size
          have hO := HNz.out.below hba
          obtain ⟨Xz, hX⟩ : ∃ Xz : NK, Xz = ({ x with kids := ksz }, k8z) := ⟨_, rfl⟩
          rw [← hX] at hO
          have hmQ0 : (Xz :: Qz).length = mz := by rw [List.length_cons]; omega
          rw [← hmQ0] at hO
          obtain ⟨k9, V5z, hrun9, c9, f9, ⟨A9z, cap9z, rfl⟩, hb9, hN9, hfr9⟩ := hO.kidMore hVB1.size (i := 0) (p := Xz) rfl (by rw [hX]; show ksz.length ≤ 400000; omega) mz
          have c90 : Va.cell? ⟨gz, 9, none⟩ = some Xz.2 := by have := hO.cell (i := 0) (p := Xz) rfl 9 _ rfl; exact this
          simp only [List.set_cons_zero, Nat.zero_mul, Nat.zero_add] at hN9 c9 f9 hb9 hfr9
          have hgV : gz < Vz.heap.size := (HNz.out.blockB (k := gz) rfl).2
          have hK6 := hfr9 gk _ _ HONE.out (by omega) (fun z hz => by
            rw [hX] at hz
            have := (HNz.out.kidB (i := 0) (p := ({ x with kids := ksz }, k8z)) rfl hz).2
            omega)
          have hHV6 : Below W1.heap.size W1 (V5z.setCell ⟨gz, 9, none⟩ (.slice A9z (Xz.1.kids.length + 1) cap9z)) := hVB1.trans hb9
          rw [List.length_cons] at hN9
          have hmQ1z : Qz.length + 1 = mz := by omega
          rw [hmQ1z] at hN9
          obtain ⟨klz, hkl9⟩ : ∃ klz, Xz.1.kids.length + 1 = klz := ⟨_, rfl⟩
          rw [hkl9] at hrun9 hN9 hK6 hHV6
          obtain ⟨xkz, hxk⟩ : ∃ v, Xz.2 = v := ⟨_, rfl⟩
          rw [hxk] at hrun9 c9 c90
          have HRUN9 := Lib.hid hrun9
          have HN9 := Lib.hid hN9
          have HK6 := Lib.hid hK6
          have HV6 := Lib.hid hHV6
          have HX := Lib.hid hX
          have HCKL := Lib.hid (And.intro hck (And.intro hckl hkk))
          have bk1 : Va.cell? ⟨gx, 0, none⟩ = some (.int .i64 3) := cell_keep hba bkz
          clear hrun9 hN9 hK6 hHV6 hb9 hfr9 hX hmQ0 hO hkl9 hxk hVB1 hba hone1 hck hckl hkk hks hVa hgk hva1 hb1 HCK0 HB10
          go_upto_region 15 with (at_builtin; refine wpList_append_known rfl (.tmp 67) (.tmp 70) 22 rfl xkz (.slice (some ⟨Va.heap.size, 0, none⟩) 1 1) _ V5z rfl rfl HRUN9.out ?_)
          generalize V5z.setCell ⟨gz, 9, none⟩ (.slice A9z klz cap9z) = V6z at *
          clear HRUN9 c9 f9 c90 bk1 HNz HONE
          have hK : Nds gk V6z (.slice (some ⟨gk, 0, none⟩) [((k, .slice none 0 0) : NK)].length 1) [((k, .slice none 0 0) : NK)] := HK6.out
          have q0 := hK.cell (i := 0) (p := (k, .slice none 0 0)) rfl 0 _ (by rw [HCKL.out.2.1]; rfl)
          have q1 := hK.cell (i := 0) (p := (k, .slice none 0 0)) rfl 1 _ (by rw [HCKL.out.2.1]; rfl)
          have q2 := hK.cell (i := 0) (p := (k, .slice none 0 0)) rfl 2 _ (by rw [HCKL.out.2.1]; rfl)
          have q3 := hK.cell (i := 0) (p := (k, .slice none 0 0)) rfl 3 _ (by rw [HCKL.out.2.1]; rfl)
          have q4 := hK.cell (i := 0) (p := (k, .slice none 0 0)) rfl 4 _ (by rw [HCKL.out.2.1]; rfl)
          have q5 := hK.cell (i := 0) (p := (k, .slice none 0 0)) rfl 5 _ (by rw [HCKL.out.2.1]; rfl)
          have q6 := hK.cell (i := 0) (p := (k, .slice none 0 0)) rfl 6 _ (by rw [HCKL.out.2.1]; rfl)
          have q7 := hK.cell (i := 0) (p := (k, .slice none 0 0)) rfl 7 _ (by rw [HCKL.out.2.1]; rfl)
          have q8 := hK.cell (i := 0) (p := (k, .slice none 0 0)) rfl 8 _ (by rw [HCKL.out.2.1]; rfl)
          have q9 := hK.cell (i := 0) (p := (k, .slice none 0 0)) rfl 9 _ (by rw [HCKL.out.2.1]; rfl)
          simp only [Nat.zero_mul, Nat.zero_add] at q0 q1 q2 q3 q4 q5 q6 q7 q8 q9
          have hone2 := Nds.one (B := V6z.heap.size) V6z (Nat.le_refl _) k HCKL.out.2.2
          rw [HCKL.out.1] at hone2
          obtain ⟨V7z, hV7⟩ : ∃ V7z, V6z.alloc (.cells #[.int .i64 k.kind, .int .i64 k.style, .string kt, .string ka, .string kv, .int .i64 (k.st : Int), .int .i64 (k.en : Int), .int .i64 (k.hd : Int), .int .i64 (k.mr : Int), .slice none 0 0] 41) = V7z := ⟨_, rfl⟩
          rw [hV7] at hone2
          have hb7 : Below V6z.heap.size V6z V7z := by rw [← hV7]; exact (Below.refl _ _).alloc (Nat.le_refl _) _
          have hO7 := HN9.out.below hb7
          have hV7' : Below W1.heap.size W1 V7z := below_step HV6.out hb7
          obtain ⟨v8, V, hrun8, ⟨A8, cap, rfl⟩, hb8', hN8⟩ := hO7.app hV7'.size hone2 rfl HV6.out.size (fun z hz => HN9.out.blockB hz |>.2) (fun i q z hq hz => (HN9.out.kidB hq hz).2) (by
            rw [List.length_cons, List.length_singleton]
            omega)
          rw [List.length_cons, hmQ1z] at hrun8 hN8
          obtain ⟨m, hm8z⟩ : ∃ m, mz + 1 = m := ⟨_, rfl⟩
          rw [hm8z] at hrun8 hN8
          obtain ⟨g, rfl⟩ : ∃ g, A8 = some ⟨g, 0, none⟩ := by
            obtain ⟨g, cp, e, _⟩ := hN8.form (by simp)
            simp only [Value.slice.injEq] at e
            exact ⟨g, e.1⟩
          have hcapN : m ≤ cap ∧ cap ≤ 9223372036854775807 := by
            obtain ⟨A', c', e, h1, h2, _⟩ := own_form hN8.row
            simp only [Value.slice.injEq] at e
            omega
          have HN8 : Hid (Nds W1.heap.size V (.slice (some ⟨g, 0, none⟩) m cap) ((({ x with kids := ksz ++ [mz] }, Value.slice A9z klz cap9z) : NK) :: (Qz ++ [(k, .slice none 0 0)]))) := by
            have h := hN8
            rw [HX.out] at h
            exact h
          have HRUN8 := Lib.hid hrun8
          have hV8 : Below W1.heap.size W1 V := hV7'.trans hb8'
          have HV8 := Lib.hid hV8
          have bk := (HWW.out V hV8).2.2.cell 0 _ rfl
          clear hrun8 hN8 hb8' hO7 hV7' hb7 hone2 hV8 hK HX HK6
          obtain ⟨A7, hsl7, -, hrd7⟩ := slice_l _ n c n1 b HE.out.len HE.out.le HE.out.nil (by omega)
          obtain ⟨a1, ha1⟩ : ∃ a, inBlk b n1 = a := ⟨_, rfl⟩
          obtain ⟨kk7, hkk7⟩ : ∃ k, blkF (b.drop n1) = k := ⟨_, rfl⟩
          have hsum7 : ((n1 : Nat) : Int) + (kk7 : Int) = (a1 : Int) := by rw [← ha1, ← hkk7]; unfold inBlk; omega
          have hle7 : a1 ≤ n := by rw [← ha1, ← HE.out.len]; exact blk_le (by rw [HE.out.len]; omega)
          have hge7 : n1 ≤ a1 := by rw [← ha1]; exact blk_ge b _
          have HBL7 := Lib.hid (And.intro ha1 hkk7)
          have HRD7 := Lib.hid hrd7
          clear ha1 hkk7 hrd7
          go_wp2_with (at_builtin; refine wpList_append_known rfl (.tmp 74) (.tmp 76) 26 rfl (.slice (some ⟨gz, 0, none⟩) mz capz) (.slice (some ⟨V6z.heap.size, 0, none⟩) 1 1) _ V rfl rfl HRUN8.out ?_)
          refine (refBlanks_any A7 (n - n1) (c - n1) (b.drop n1) V (by rw [List.length_drop, HE.out.len]) (by omega) (by omega) (HRD7.out _ (HE.out.rd.below (HWW.out V HV8.out).1))).mono ?_
          rintro e w' ⟨rfl, rfl⟩
          rw [HBL7.out.2]
          clear HRUN8 hV7 q0 q1 q2 q3 q4 q5 q6 q7 q8 q9 HN9 HV6 HVA HBA hgkV hgV
          obtain ⟨ic, hic⟩ : ∃ ic, inColon b a1 = ic := ⟨_, rfl⟩
          have hcol := colon_eq b a1
          rw [hic, HE.out.len] at hcol
          have HCOL := Lib.hid hcol
          have HIC := Lib.hid hic
          clear hcol hic
          go_upto_region 18 with fail
          go_cut [126] from 85 to 126 (fun v U => v = .bool (!ic) ∧ V = U)
          case first =>
            have ht := HCOL.out
            by_cases hl1 : a1 < n
            · obtain ⟨aC, oC, hA, hcC⟩ := (HE.out.rd.below (HWW.out V HV8.out).1).addr (by rw [HE.out.len]; omega)
              have cC := hcC a1 (by rw [HE.out.len]; exact hl1)
              rw [decide_eq_true hl1, Bool.true_and] at ht
              have l1 : (a1 : Int) < (n : Int) := by omega
              have l2 : ¬ (n : Int) ≤ (a1 : Int) := by omega
              have l3 : decide ((n : Int) ≤ (a1 : Int)) = false := decide_eq_false l2
              by_cases h58 : b.getD a1 0 = 58
              · rw [h58] at cC ht
                simp only [beq_self_eq_true, Bool.true_and] at ht
                by_cases hl2 : a1 + 1 < n
                · obtain ⟨i2, hi2⟩ : ∃ i2, a1 + 1 = i2 := ⟨_, rfl⟩
                  rw [hi2] at hl2 ht
                  have hz2 : (a1 : Int) + 1 = (i2 : Int) := by omega
                  have cD := hcC i2 (by rw [HE.out.len]; exact hl2)
                  have l4 : (i2 : Int) < (n : Int) := by omega
                  have l5 : decide ((i2 : Int) < (n : Int)) = true := decide_eq_true l4
                  subst hA
                  rw [decide_eq_true hl2, Bool.true_and] at ht
                  clear hcC hi2
                  generalize b.getD i2 0 = yb at cD ht
                  by_cases y32 : yb = 32
                  · subst y32
                    simp only [bne_self_eq_false, Bool.false_and, Bool.not_false] at ht
                    subst ht
                    go_wp2_with fail
                    go_meet
                    exact ⟨rfl, rfl⟩
                  · have z32 : (yb != 32) = true := bne_iff_ne.2 y32
                    by_cases y44 : yb = 44
                    · subst y44
                      simp only [bne_self_eq_false, Bool.false_and, Bool.and_false, Bool.not_false] at ht
                      subst ht
                      go_wp2_with fail
                      go_meet
                      exact ⟨rfl, rfl⟩
                    · have z44 : (yb != 44) = true := bne_iff_ne.2 y44
                      by_cases y125 : yb = 125
                      · subst y125
                        simp only [bne_self_eq_false, Bool.and_false, Bool.not_false] at ht
                        subst ht
                        go_wp2_with fail
                        go_meet
                        exact ⟨rfl, rfl⟩
                      · have z125 : (yb != 125) = true := bne_iff_ne.2 y125
                        rw [z32, z44, z125] at ht
                        simp only [Bool.and_self, Bool.not_true] at ht
                        subst ht
                        go_wp2_with fail
                        go_meet
                        exact ⟨rfl, rfl⟩
                · have l4 : ¬ (a1 : Int) + 1 < (n : Int) := by omega
                  have l5 : decide ((a1 : Int) + 1 < (n : Int)) = false := decide_eq_false l4
                  subst hA
                  rw [decide_eq_false hl2] at ht
                  simp only [Bool.false_and, Bool.not_false] at ht
                  subst ht
                  clear hcC
                  go_wp2_with fail
                  go_meet
                  exact ⟨rfl, rfl⟩
              · have q58 : (b.getD a1 0 == 58) = false := beq_eq_false_iff_ne.2 h58
                have q58' : (b.getD a1 0 != 58) = true := bne_iff_ne.2 h58
                rw [q58, Bool.false_and] at ht
                subst ht
                subst hA
                clear hcC
                generalize b.getD a1 0 = xb at cC q58 q58' h58
                go_wp2_with fail
                go_meet
                exact ⟨rfl, rfl⟩
            · have l1 : ¬ (a1 : Int) < (n : Int) := by omega
              have l2 : (n : Int) ≤ (a1 : Int) := by omega
              have l3 : decide ((n : Int) ≤ (a1 : Int)) = true := decide_eq_true l2
              rw [decide_eq_false hl1, Bool.false_and] at ht
              subst ht
              go_wp2_with fail
              go_meet
              exact ⟨rfl, rfl⟩
          case rest =>
            obtain ⟨rfl, rfl⟩ := hcut
            cases ic with
            | false =>
              have hre : r = .error 2 := by
                have := HRA.out
                try dsimp only at this
                rw [HBL7.out.1, HIC.out, if_neg (by decide)] at this
                exact this
              have HRE := Lib.hid hre
              clear hre
              go_wp2_with fail
              go_ret3
              rw [HRES.out, HRE.out]
              exact ⟨rfl, (HWW.out V HV8.out).2.1, by decide⟩
            | true =>
              have hra := HRA.out
              try dsimp only at hra
              rw [HBL7.out.1, HIC.out, if_pos rfl] at hra
              have ha1n : a1 < n := by
                have := colon_lt HIC.out
                rwa [HE.out.len] at this
              have HRB := Lib.hid hra
              clear hra HRA HIC HCOL HBL7 HRD7 HRK
              obtain ⟨mk, hmk⟩ : ∃ mk, a1 + 1 = mk := ⟨_, rfl⟩
              have hmkz : (a1 : Int) + 1 = (mk : Int) := by omega
              have hmkn : mk ≤ n := by omega
              have hscmk : sc + 1 < mk := by omega
              have HMK := Lib.hid hmk
              have HMKZ := Lib.hid hmkz
              clear hmk
              go_upto_region 21 with fail
              clear hmkz
              clear bkz HVBz hmposz hmposIz hmnez hmcz hcapz HBZ
              obtain ⟨Q, hQN⟩ : ∃ z, Qz ++ [((k, .slice none 0 0) : NK)] = z := ⟨_, rfl⟩
              obtain ⟨ks, hksN⟩ : ∃ z, ksz ++ [mz] = z := ⟨_, rfl⟩
              obtain ⟨k8, hk8N⟩ : ∃ z, Value.slice A9z klz cap9z = z := ⟨_, rfl⟩
              have HN : Hid (Nds W1.heap.size V (.slice (some ⟨g, 0, none⟩) m cap) (({ x with kids := ks }, k8) :: Q)) := by
                have h := HN8.out
                rw [hQN, hksN, hk8N] at h
                exact h
              have HVB : Hid (Below W1.heap.size W1 V) := HV8.out
              have hQNl : Q.length = Qz.length + 1 := by rw [← hQN]; simp
              have hksl : ks.length = ksz.length + 1 := by rw [← hksN]; simp
              have hmQ : 1 + Q.length = m := by omega
              have hgf' : n - sc ≤ Gf := hgf
              have hmpos : 0 < m := by omega
              have hmposI : (0 : Int) < (m : Int) := by omega
              have hmne : ¬ m = 0 := by omega
              have hmc := hcapN.1
              have hcap := hcapN.2
              have hrv : r = (match inNode f b true (inBlk b mk) 0 with
                  | .error e => .error e
                  | .ok (l, m2) => Aft (inPair (inNode f b true) b) b 125 Gf m2 (1 + Q.length + l.length) (ks ++ [m]) (lst Q ++ mvL m (inVal l sc mk (m2 == inBlk b mk)))) := by
                have h := HRB.out
                rw [HMK.out, node_base] at h
                rw [h]
                cases inNode f b true (inBlk b mk) 0 with
                | error e => rfl
                | ok y =>
                  obtain ⟨l, m2⟩ := y
                  try dsimp only [mvR]
                  rw [mv_val, ← hksN, ← hQN, lst_app]
                  have e1 : 1 + Qz.length + 1 = m := by omega
                  have e2 : 1 + Qz.length = mz := by omega
                  rw [e1, e2]
                  have e3 : (k :: mvL m (inVal l sc mk (m2 == inBlk b mk))).length = l.length + 1 := by rw [List.length_cons, mvL_len, val_len]
                  rw [e3]
                  show Aft _ _ _ _ _ _ (ksz ++ [mz, m]) (lst Qz ++ k :: mvL m (inVal l sc mk (m2 == inBlk b mk))) = Aft _ _ _ _ _ _ (ksz ++ [mz] ++ [m]) (lst Qz ++ [k] ++ mvL m (inVal l sc mk (m2 == inBlk b mk)))
                  rw [List.append_assoc, List.append_assoc]
                  congr 1
                  rw [List.length_append, List.length_singleton]
                  omega
              have HRW := Lib.hid hrv
              have HQN := Lib.hid (And.intro hQN (And.intro hksN hk8N))
              clear hrv hQN hksN hk8N HN8 HV8 HRB
              obtain ⟨A1, hsl1, -, hrd1⟩ := slice_l _ n c mk b HE.out.len HE.out.le HE.out.nil (by omega)
              obtain ⟨sv, hsv⟩ : ∃ a, inBlk b mk = a := ⟨_, rfl⟩
              obtain ⟨kk1, hkk1⟩ : ∃ k, blkF (b.drop mk) = k := ⟨_, rfl⟩
              have hsum1 : ((mk : Nat) : Int) + (kk1 : Int) = (sv : Int) := by rw [← hsv, ← hkk1]; unfold inBlk; omega
              have hle1 : sv ≤ n := by rw [← hsv, ← HE.out.len]; exact blk_le (by rw [HE.out.len]; omega)
              have hge1 : mk ≤ sv := by rw [← hsv]; exact blk_ge b _
              have HBL1 := Lib.hid (And.intro hsv hkk1)
              have HRD1 := Lib.hid hrd1
              clear hsv hkk1 hrd1
              have hrv := HRW.out
              rw [HBL1.out.1] at hrv
              have HRV := Lib.hid hrv
              have hsv : sv ≤ n := hle1
              have hsz1 : 1 + Q.length ≤ sv + 1 := by omega
              have hsz2 : ks.length ≤ sv + 1 := by omega
              have hscsv : sc ≤ sv := by omega
              clear hrv HRW
              go_wp2_with fail
              refine (refBlanks_any A1 (n - mk) (c - mk) (b.drop mk) V (by rw [List.length_drop, HE.out.len]) (by omega) (by omega) (HRD1.out _ (HE.out.rd.below (HWW.out V HVB.out).1))).mono ?_
              rintro e w' ⟨rfl, rfl⟩
              rw [HBL1.out.2]
              go_wp2_with fail
              refine (HC.out V sv true (d + 1) (HWW.out V HVB.out).1 hsv (by omega) (by omega) hf).mono ?_
              intro e V2 h2
              obtain ⟨r2, hr2⟩ : ∃ r2, inNode f b true sv 0 = r2 := ⟨_, rfl⟩
              rw [hr2] at h2
              have hrl := HRV.out
              rw [hr2] at hrl
              have HRL := Lib.hid hrl
              have HR2 := Lib.hid hr2
              clear hrl hr2 HRV
              cases r2 with
              | error qe =>
                obtain ⟨rfl, hb2, hq0⟩ := h2
                have hne : (qe != 0) = true := bne_iff_ne.2 hq0
                have HE2 := Lib.hid (And.intro hb2 hq0)
                clear hb2 hq0
                go_wp2_with fail
                go_ret3
                have hre : r = .error qe := HRL.out
                rw [HRES.out, hre]
                exact ⟨rfl, below_step (HWW.out V HVB.out).2.1 HE2.out.1, HE2.out.2⟩
              | ok yy =>
                obtain ⟨l, m2⟩ := yy
                obtain ⟨v2, P2, rfl, hN2, hl2, hb2⟩ := h2
                have hsb : sv ≤ b.length := by rw [HE.out.len]; exact hsv
                have hz := node_size b f true sv 0 l m2 hsb HR2.out
                rw [HE.out.len] at hz
                have hkz := node_kids b f true sv 0 l m2 HR2.out
                have hkl := node_lens b f true sv 0 l m2 HR2.out
                obtain ⟨y, tl, rfl, hyh, hym, hless⟩ := node_head f b true sv 0 l m2 hsb HR2.out
                obtain ⟨p, T, rfl⟩ : ∃ p T, P2 = p :: T := by
                  cases P2 with
                  | nil => simp [lst] at hl2
                  | cons p T => exact ⟨p, T, rfl⟩
                have hp1 : p.1 = y := by simp [lst] at hl2; exact hl2.1
                have hT : lst T = tl := by simp [lst] at hl2; exact hl2.2
                obtain ⟨gl, capl, rfl, hgl1, hgl2, hgl3, hgl4⟩ := hN2.form (by simp)
                have y0 : V2.cell? ⟨gl, 0, none⟩ = some (.int .i64 y.kind) := by have := hN2.cell (i := 0) (p := p) rfl 0 _ rfl; rw [hp1] at this; exact this
                have y5 : V2.cell? ⟨gl, 5, none⟩ = some (.int .i64 (y.st : Int)) := by have := hN2.cell (i := 0) (p := p) rfl 5 _ rfl; rw [hp1] at this; exact this
                have y6 : V2.cell? ⟨gl, 6, none⟩ = some (.int .i64 (y.en : Int)) := by have := hN2.cell (i := 0) (p := p) rfl 6 _ rfl; rw [hp1] at this; exact this
                obtain ⟨ml, hml⟩ : ∃ ml, (p :: T).length = ml := ⟨_, rfl⟩
                have hml0 : (0 : Int) < (ml : Int) := by rw [List.length_cons] at hml; omega
                have hml1 : 0 < ml := by omega
                have hml2 : ¬ ml = 0 := by omega
                have hmlz : ml ≤ m2 - sv + 1 := by
                  have h1 := hz.2.2.2.1
                  rw [← hl2, lst_len, hml] at h1
                  exact h1
                rw [hml] at hN2 hgl1 ⊢
                have HN2 := Lib.hid hN2
                have HL2 := Lib.hid (And.intro hT (And.intro hml hp1))
                have HB2' := Lib.hid hb2
                have HZ := Lib.hid (And.intro hz (And.intro hkz hkl))
                have HY := Lib.hid (And.intro hyh (And.intro hym hless))
                have hm2n : m2 ≤ n := hz.2.1
                have hsvm : sv ≤ m2 := hz.1
                obtain ⟨kd, hkd⟩ : ∃ k, y.kind = k := ⟨_, rfl⟩
                obtain ⟨st, hst⟩ : ∃ k, y.st = k := ⟨_, rfl⟩
                obtain ⟨en, hen⟩ : ∃ k, y.en = k := ⟨_, rfl⟩
                rw [hkd] at y0
                rw [hst] at y5
                rw [hen] at y6
                have HKS := Lib.hid (And.intro hkd (And.intro hst hen))
                have bk2 : V2.cell? ⟨gx, 0, none⟩ = some (.int .i64 3) := cell_keep hb2 bk
                obtain ⟨tx, htx⟩ : ∃ tx, decide (m2 = sv) = tx := ⟨_, rfl⟩
                have htx1 : kd = 0 → (decide (st = en)) = tx := by
                  intro h
                  rw [← htx]
                  by_cases hse : st = en
                  · rw [decide_eq_true hse, decide_eq_true (hless.2 (by rw [hkd, hst, hen]; exact ⟨h, hse⟩))]
                  · rw [decide_eq_false hse, decide_eq_false (fun e => hse (by have := (hless.1 e).2; rw [hst, hen] at this; exact this))]
                have htx2 : ¬ kd = 0 → tx = false := by
                  intro h
                  rw [← htx, decide_eq_false (fun e => h (by have := (hless.1 e).1; rw [hkd] at this; exact this))]
                have HTX := Lib.hid (And.intro htx (And.intro htx1 htx2))
                clear hN2 hl2 hb2 hz hkz hkl hyh hym hless hkd hst hen hp1 hml hsb htx htx1 htx2 hT
                go_upto_region 26 with fail
                go_cut [163] from 148 to 163 (fun v U => v = .bool tx ∧ ∃ nq, U = V2.drewN nq)
                case first =>
                  by_cases h0 : kd = 0
                  · have ht := HTX.out.2.1 h0
                    subst h0
                    by_cases hse : st = en
                    · rw [decide_eq_true hse] at ht
                      subst ht hse
                      go_quiet (fail)
                      go_wp2_with fail
                      go_meet
                      exact ⟨rfl, _, rfl⟩
                    · rw [decide_eq_false hse] at ht
                      subst ht
                      have e1 : ((st : Int) == (en : Int)) = false := beq_eq_false_iff_ne.2 (by omega)
                      go_quiet (fail)
                      go_wp2_with fail
                      go_meet
                      exact ⟨rfl, _, rfl⟩
                  · have ht := HTX.out.2.2 h0
                    subst ht
                    have e1 : (kd == 0) = false := beq_eq_false_iff_ne.2 h0
                    go_quiet (fail)
                    go_wp2_with fail
                    go_meet
                    exact ⟨rfl, _, rfl⟩
                case rest =>
                  obtain ⟨rfl, nq, rfl⟩ := hcut
                  have HN3 := Lib.hid (HN2.out.below (below_draws (Below.refl _ _) nq))
                  have HB3 := Lib.hid (below_draws HB2'.out nq)
                  have z5 : (V2.drewN nq).cell? ⟨gl, 5, none⟩ = some (.int .i64 (st : Int)) := y5
                  have z6 : (V2.drewN nq).cell? ⟨gl, 6, none⟩ = some (.int .i64 (en : Int)) := y6
                  have bk3 : (V2.drewN nq).cell? ⟨gx, 0, none⟩ = some (.int .i64 3) := bk2
                  clear y0 y5 y6 bk2 HN2 HB2'
                  generalize V2.drewN nq = V3 at *
                  obtain ⟨st2, hst2⟩ : ∃ z, (if tx = true then mk else st) = z := ⟨_, rfl⟩
                  obtain ⟨en2, hen2⟩ : ∃ z, (if tx = true then mk else en) = z := ⟨_, rfl⟩
                  have HSE := Lib.hid (And.intro hst2 hen2)
                  clear hst2 hen2
                  have HPT : Hid ((p :: T).length = ml) := HL2.out.2.1
                  have f5 : V3.frozen? ⟨gl, 5, none⟩ = false := by
                    have := HN3.out
                    rw [← HPT.out] at this
                    exact this.frozen 5
                  have f6 : V3.frozen? ⟨gl, 6, none⟩ = false := by
                    have := HN3.out
                    rw [← HPT.out] at this
                    exact this.frozen 6
                  go_upto_if 163 with fail
                  go_cut [19] from 164 to 174 (fun v U => v = .slice (some ⟨gl, 0, none⟩) ml capl ∧ Hid (Nds V.heap.size U (.slice (some ⟨gl, 0, none⟩) ml capl) (({ p.1 with st := st2, en := en2 }, p.2) :: T) ∧ Below V.heap.size V U))
                  case first =>
                    cases tx with
                    | true =>
                      obtain ⟨e1, e2⟩ := HSE.out
                      rw [if_pos rfl] at e1 e2
                      subst e1 e2
                      have hn := HN3.out.spots HPT.out mk mk
                      have H3 := Lib.hid hn
                      clear hn
                      go_wp2_with fail
                      go_meet
                      exact ⟨rfl, H3.out, (HB3.out.setCell (p := ⟨gl, 5, none⟩) hgl3 _).setCell (p := ⟨gl, 6, none⟩) hgl3 _⟩
                    | false =>
                      obtain ⟨e1, e2⟩ := HSE.out
                      rw [if_neg (by decide)] at e1 e2
                      have hpe : ({ p.1 with st := st2, en := en2 } : Nd) = p.1 := by
                        have h1 := HKS.out.2.1
                        have h2 := HKS.out.2.2
                        rw [← HL2.out.2.2] at h1 h2
                        exact Nd.se_eq p.1 st2 en2 (by rw [h1, e1]) (by rw [h2, e2])
                      have H3 : Hid (Nds V.heap.size V3 (.slice (some ⟨gl, 0, none⟩) ml capl) (({ p.1 with st := st2, en := en2 }, p.2) :: T)) := by
                        show Nds _ _ _ _
                        rw [hpe]; exact HN3.out
                      clear hpe e1 e2
                      go_wp2_with fail
                      go_meet
                      exact ⟨rfl, H3.out, HB3.out⟩
                  case rest =>
                    obtain ⟨rfl, HC30⟩ := hcut
                    clear HN3 HB3 z5 z6 bk3 f5 f6
                    obtain ⟨V3, hV3⟩ : ∃ z, z = wc := ⟨_, rfl⟩
                    subst hV3
                    have HN3 : Hid (Nds V.heap.size V3 (.slice (some ⟨gl, 0, none⟩) ml capl) (({ p.1 with st := st2, en := en2 }, p.2) :: T)) := HC30.out.1
                    have HB3 : Hid (Below V.heap.size V V3) := HC30.out.2
                    clear HC30
                    have bk3 := cell_keep HB3.out bk
                    obtain ⟨p2, hp2⟩ : ∃ q : NK, q = ({ p.1 with st := st2, en := en2 }, p.2) := ⟨_, rfl⟩
                    rw [← hp2] at HN3
                    have HP2 := Lib.hid hp2
                    have HP2L : (p2 :: T).length = ml := HPT.out
                    have z5 : V3.cell? ⟨gl, 5, none⟩ = some (.int .i64 (st2 : Int)) := by
                      have h := HN3.out
                      rw [← HP2L] at h
                      have h5 := h.cell (i := 0) (p := p2) rfl 5 _ rfl
                      rw [hp2] at h5
                      exact h5
                    clear hp2
                    have HN4' : Hid (Nds V.heap.size ((V3.setCell ⟨gl, 7, none⟩ (.int .i64 (st2 : Int))).setCell ⟨gl, 8, none⟩ (.int .i64 (st2 : Int))).drew (.slice (some ⟨gl, 0, none⟩) ml capl) (({ p2.1 with hd := st2, mr := st2 }, p2.2) :: T)) := (HN3.out.headMark HP2L st2 st2).below (Below.refl _ _).drew
                    have HB4' : Hid (Below V.heap.size V ((V3.setCell ⟨gl, 7, none⟩ (.int .i64 (st2 : Int))).setCell ⟨gl, 8, none⟩ (.int .i64 (st2 : Int))).drew) := ((HB3.out.setCell (p := ⟨gl, 7, none⟩) hgl3 _).setCell (p := ⟨gl, 8, none⟩) hgl3 _).drew
                    have z7 : V3.cell? ⟨gl, 7, none⟩ = some (.int .i64 (p2.1.hd : Int)) := by
                      have := HN3.out
                      rw [← HP2L] at this
                      exact this.cell (i := 0) (p := p2) rfl 7 _ rfl
                    have z8 : V3.cell? ⟨gl, 8, none⟩ = some (.int .i64 (p2.1.mr : Int)) := by
                      have := HN3.out
                      rw [← HP2L] at this
                      exact this.cell (i := 0) (p := p2) rfl 8 _ rfl
                    have f7 : V3.frozen? ⟨gl, 7, none⟩ = false := by
                      have := HN3.out
                      rw [← HP2L] at this
                      exact this.frozen 7
                    have f8 : V3.frozen? ⟨gl, 8, none⟩ = false := by
                      have := HN3.out
                      rw [← HP2L] at this
                      exact this.frozen 8
                    have HSET : Hid (∀ (U : World) (j : Nat) (u : Value), j = 7 ∨ j = 8 → U.cell? ⟨gl, 5, none⟩ = some (.int .i64 (st2 : Int)) → (U.setCell ⟨gl, j, none⟩ u).cell? ⟨gl, 5, none⟩ = some (.int .i64 (st2 : Int))) := fun U j u hj hU => by
                      rw [World.cell?_setCell_other _ _ _ _ (by intro e; injection e with _ e; omega)]; exact hU
                    go_upto_region 30 with fail
                    go_region_held3 (fun U => U.cell? ⟨gl, 5, none⟩ = some (.int .i64 (st2 : Int)))
                      (first | exact z5 | exact HSET.out _ _ _ (.inl rfl) z5 | exact HSET.out _ _ _ (.inr rfl) z5 | exact HSET.out _ _ _ (.inr rfl) (HSET.out _ _ _ (.inl rfl) z5) | exact HSET.out _ _ _ (.inl rfl) (HSET.out _ _ _ (.inr rfl) z5))
                      (fail)
                    have HN4a : Hid (Nds V.heap.size ((V3.setCell ⟨gl, 7, none⟩ (.int .i64 (st2 : Int))).setCell ⟨gl, 8, none⟩ (.int .i64 (st2 : Int))).drew (.slice (some ⟨gl, 0, none⟩) ml capl) (({ p2.1 with hd := st2, mr := st2 }, p2.2) :: T)) := HN4'
                    have HB4a : Hid (Below V.heap.size V ((V3.setCell ⟨gl, 7, none⟩ (.int .i64 (st2 : Int))).setCell ⟨gl, 8, none⟩ (.int .i64 (st2 : Int))).drew) := HB4'
                    clear HN4' HB4' HSET z5 z7 z8 f7 f8 bk3 HN3 HB3
                    generalize ((V3.setCell ⟨gl, 7, none⟩ (.int .i64 (st2 : Int))).setCell ⟨gl, 8, none⟩ (.int .i64 (st2 : Int))).drew = V4a at *
                    have hNa : Nds V.heap.size V4a (.slice (some ⟨gl, 0, none⟩) ((({ p2.1 with hd := st2, mr := st2 }, p2.2) : NK) :: T).length capl) ((({ p2.1 with hd := st2, mr := st2 }, p2.2) : NK) :: T) := by
                      have h := HN4a.out
                      rw [← HP2L] at h
                      exact h
                    have w7 : V4a.cell? ⟨gl, 7, none⟩ = some (.int .i64 (st2 : Int)) := hNa.cell (i := 0) (p := ({ p2.1 with hd := st2, mr := st2 }, p2.2)) rfl 7 _ rfl
                    have w8 : V4a.cell? ⟨gl, 8, none⟩ = some (.int .i64 (st2 : Int)) := hNa.cell (i := 0) (p := ({ p2.1 with hd := st2, mr := st2 }, p2.2)) rfl 8 _ rfl
                    have g7 : V4a.frozen? ⟨gl, 7, none⟩ = false := hNa.frozen 7
                    have g8' : V4a.frozen? ⟨gl, 8, none⟩ = false := hNa.frozen 8
                    clear hNa
                    have bk4a := cell_keep HB4a.out bk
                    have HN4b := Lib.hid (HN4a.out.headMark HP2L sc mk)
                    have HB4b : Hid (Below V.heap.size V ((V4a.setCell ⟨gl, 7, none⟩ (.int .i64 (sc : Int))).setCell ⟨gl, 8, none⟩ (.int .i64 (mk : Int)))) := (HB4a.out.setCell (p := ⟨gl, 7, none⟩) hgl3 _).setCell (p := ⟨gl, 8, none⟩) hgl3 _
                    go_upto_region 33 with fail
                    generalize (V4a.setCell ⟨gl, 7, none⟩ (.int .i64 (sc : Int))).setCell ⟨gl, 8, none⟩ (.int .i64 (mk : Int)) = V4 at *
                    clear w7 w8 g7 g8' bk4a HN4a HB4a
                    have HB4 : Hid (Below V.heap.size V V4) := HB4b.out
                    obtain ⟨y4, hy4⟩ : ∃ z : Nd, z = { y with hd := sc, mr := mk, st := st2, en := en2 } := ⟨_, rfl⟩
                    have HN5 : Hid (Nds V.heap.size V4 (.slice (some ⟨gl, 0, none⟩) ml capl) ((y4, p.2) :: T)) := by
                      have h := HN4b.out
                      rw [HP2.out] at h
                      have e : ({ ({ p.1 with st := st2, en := en2 } : Nd) with hd := sc, mr := mk } : Nd) = y4 := by rw [hy4, HL2.out.2.2]
                      simp only at h
                      rw [hy4, ← HL2.out.2.2]
                      exact h
                    obtain ⟨L2, hL2⟩ : ∃ L2, inVal (y :: tl) sc mk (m2 == sv) = L2 := ⟨_, rfl⟩
                    have hL2' : L2 = y4 :: tl := by
                      rw [← hL2, hy4]
                      have htx := HTX.out.1
                      have hse := HSE.out
                      have hbt : (m2 == sv) = tx := by
                        rw [← htx]
                        by_cases h : m2 = sv
                        · rw [decide_eq_true h]; exact beq_iff_eq.2 h
                        · rw [decide_eq_false h]; exact beq_eq_false_iff_ne.2 h
                      rw [hbt]
                      show ({ y with hd := sc, mr := mk, st := if tx = true then mk else y.st, en := if tx = true then mk else y.en } : Nd) :: tl = _
                      rw [HKS.out.2.1, HKS.out.2.2, hse.1, hse.2]
                    have HLL : Hid (lst ((y4, p.2) :: T) = L2) := by show y4 :: lst T = L2; rw [HL2.out.1, hL2']
                    have hrf : r = Aft (inPair (inNode f b true) b) b 125 Gf m2 (1 + (Q ++ T).length + 1) (ks ++ [m]) (lst Q ++ mvL m L2) := by
                      have h := HRL.out
                      rw [h]
                      try dsimp only
                      rw [hL2]
                      congr 1
                      rw [List.length_append, List.length_cons, ← HL2.out.1, lst_len]
                      omega
                    have HRF := Lib.hid hrf
                    have HY4 := Lib.hid (And.intro hy4 hL2')
                    clear hrf hL2 hL2' hy4 HN4b HB4b HP2 HSE HTX HRL HR2 HPT
                    have HKQ : Hid (∀ q ∈ L2, ∃ q2 ∈ y :: tl, q2.kids = q.kids) := by
                      intro q hq
                      rw [HY4.out.2] at hq
                      rcases List.mem_cons.1 hq with rfl | hq
                      · exact ⟨y, by simp, by rw [HY4.out.1]⟩
                      · exact ⟨q, by simp [hq], rfl⟩
                    have bk4 := cell_keep HB4.out bk
                    have hO := HN.out.below HB4.out
                    obtain ⟨X, hX⟩ : ∃ X : NK, X = ({ x with kids := ks }, k8) := ⟨_, rfl⟩
                    rw [← hX] at hO
                    have hmQ0 : (X :: Q).length = m := by rw [List.length_cons]; omega
                    have hV4 : Below W1.heap.size W1 V4 := below_step HVB.out HB4.out
                    rw [← hmQ0] at hO
                    obtain ⟨k9, V5, hrun9, c9, f9, ⟨A9, cap9, rfl⟩, hb9, hN9, hfr9⟩ := hO.kidMore hV4.size (i := 0) (p := X) rfl (by rw [hX]; show ks.length ≤ 400000; omega) m
                    have c90 : V4.cell? ⟨g, 9, none⟩ = some X.2 := by have := hO.cell (i := 0) (p := X) rfl 9 _ rfl; exact this
                    simp only [List.set_cons_zero, Nat.zero_mul, Nat.zero_add] at hN9 c9 f9 hb9 hfr9
                    have hL6 := hfr9 V.heap.size _ _ HN5.out ((HN.out.blockB (k := g) rfl).2) (fun k hk => by
                      rw [hX] at hk
                      exact (HN.out.kidB (i := 0) (p := ({ x with kids := ks }, k8)) rfl hk).2)
                    have hHV6 : Below W1.heap.size W1 (V5.setCell ⟨g, 9, none⟩ (.slice A9 (X.1.kids.length + 1) cap9)) := hV4.trans hb9
                    rw [List.length_cons] at hN9
                    have hmQ1 : Q.length + 1 = m := by omega
                    rw [hmQ1] at hN9
                    obtain ⟨kl, hkl9⟩ : ∃ kl, X.1.kids.length + 1 = kl := ⟨_, rfl⟩
                    rw [hkl9] at hrun9 hN9 hL6 hHV6
                    obtain ⟨xk, hxk⟩ : ∃ v, X.2 = v := ⟨_, rfl⟩
                    rw [hxk] at hrun9 c9 c90
                    have HRUN9 := Lib.hid hrun9
                    have HN9 := Lib.hid hN9
                    have HL6 := Lib.hid hL6
                    have HV6 := Lib.hid hHV6
                    have HX := Lib.hid hX
                    have hmn : m ≤ n + 1 := by omega
                    clear hrun9 hN9 hL6 hHV6 hb9 hfr9 hX hmQ0 hV4 hO hkl9 hxk HN5 HB4 HN
                    go_wp2_with (at_builtin; refine wpList_append_known rfl (.tmp 206) (.tmp 208) 22 rfl xk (.slice (some ⟨V4.heap.size, 0, none⟩) 1 1) _ V5 rfl rfl HRUN9.out ?_)
                    generalize V5.setCell ⟨g, 9, none⟩ (.slice A9 kl cap9) = V6 at *
                    clear HRUN9 c9 f9 c90 bk4
                    have hmlb : ml ≤ 100001 := by omega
                    have hPL : ((y4, p.2) :: T).length = ml := by rw [← HL2.out.2.1]; rfl
                    refine (move_at HL6.out hPL hml1 (by omega) m (by omega) ?_).mono ?_
                    · intro q hq
                      have hq1 : q.1 ∈ L2 := by rw [← HLL.out]; exact List.mem_map.2 ⟨q, hq, rfl⟩
                      have hkk : q.1.kids.length ≤ ml ∧ ∀ z ∈ q.1.kids, z < ml := by
                        have hlen : (y :: tl).length = ml := by rw [List.length_cons, ← HL2.out.1, lst_len]; have := HL2.out.2.1; rw [List.length_cons] at this; exact this
                        obtain ⟨q2, hq2, hqk⟩ : ∃ q2 ∈ y :: tl, q2.kids = q.1.kids := HKQ.out q.1 hq1
                        rw [← hqk]
                        have h1 := HZ.out.2.2 q2 hq2
                        have h2 := HZ.out.2.1 q2 hq2
                        rw [hlen] at h1
                        refine ⟨h1, fun z hz => ?_⟩
                        have := h2 z hz
                        rw [hlen] at this
                        omega
                      exact ⟨by omega, fun z hz => by have := hkk.2 z hz; omega⟩
                    rintro e V7 ⟨vm, QM, rfl, hNM, hLM, hbM⟩
                    have hQM : QM.length = ml := by
                      have := congrArg List.length hLM
                      rw [lst_len, mvL_len, lst_len, hPL] at this
                      exact this
                    rw [HLL.out] at hLM
                    obtain ⟨Am, capm, rfl, hcm1, hcm2, _⟩ := own_form hNM.row
                    rw [hQM] at hNM hcm1 ⊢
                    have hO7 := HN9.out.below hbM
                    have hV7 : Below W1.heap.size W1 V7 := below_step HV6.out hbM
                    obtain ⟨v8, V8, hrun8, ⟨A8, cap8, rfl⟩, hb8', hN8⟩ := hO7.app hV7.size hNM hQM HV6.out.size (fun k hk => HN9.out.blockB hk |>.2) (fun i q k hq hk => (HN9.out.kidB hq hk).2) (by
                      rw [List.length_cons, hQM]
                      omega)
                    rw [List.length_cons, hmQ1] at hrun8 hN8
                    obtain ⟨m8, hm8⟩ : ∃ m8, m + ml = m8 := ⟨_, rfl⟩
                    rw [hm8] at hrun8 hN8
                    obtain ⟨g8, rfl⟩ : ∃ g8, A8 = some ⟨g8, 0, none⟩ := by
                      obtain ⟨g8, cp, e, _⟩ := hN8.form (by simp)
                      simp only [Value.slice.injEq] at e
                      exact ⟨g8, e.1⟩
                    have hcap8 : m8 ≤ cap8 ∧ cap8 ≤ 9223372036854775807 := by
                      obtain ⟨A', c', e, h1, h2, _⟩ := own_form hN8.row
                      simp only [Value.slice.injEq] at e
                      omega
                    have hN8L : ((({ X.1 with kids := X.1.kids ++ [m] }, Value.slice A9 kl cap9) : NK) :: (Q ++ QM)).length = m8 := by
                      rw [List.length_cons, List.length_append, hQM]; omega
                    have HRUN8 := Lib.hid hrun8
                    have HN8 : Hid (Nds W1.heap.size V8 (.slice (some ⟨g8, 0, none⟩) m8 cap8) ((({ x with kids := ks ++ [m] }, Value.slice A9 kl cap9) : NK) :: (Q ++ QM))) := by
                      have h := hN8
                      rw [HX.out] at h
                      exact h
                    rw [HX.out] at hN8L
                    have HN8L : Hid (((({ x with kids := ks ++ [m] }, Value.slice A9 kl cap9) : NK) :: (Q ++ QM)).length = m8) := hN8L
                    have hV8 : Below W1.heap.size W1 V8 := hV7.trans hb8'
                    have HV8 := Lib.hid (And.intro hV8 (And.intro (HWW.out V8 hV8).1 (HWW.out V8 hV8).2.1))
                    have HLM := Lib.hid (And.intro hLM hQM)
                    have hrg : r = Aft (inPair (inNode f b true) b) b 125 Gf m2 (1 + (Q ++ QM).length) (ks ++ [m]) (lst (Q ++ QM)) := by
                      rw [lst_app, hLM, HRF.out]
                      congr 1
                      have h2 := HL2.out.2.1
                      rw [List.length_cons] at h2
                      rw [List.length_append, List.length_append, hQM]
                      omega
                    have HRG := Lib.hid hrg
                    clear hrun8 hN8 hN8L hb8' hO7 hV7 hNM hLM hbM hQM hV8 hPL hrg HRF HX HLL HL6 HN9 HV6 HKQ HZ
                    obtain ⟨A2, hsl2, -, hrd2⟩ := slice_l _ n c m2 b HE.out.len HE.out.le HE.out.nil (by omega)
                    obtain ⟨a2, ha2⟩ : ∃ a, inBlk b m2 = a := ⟨_, rfl⟩
                    obtain ⟨kk2, hkk2⟩ : ∃ k, blkF (b.drop m2) = k := ⟨_, rfl⟩
                    have hsum2 : ((m2 : Nat) : Int) + (kk2 : Int) = (a2 : Int) := by rw [← ha2, ← hkk2]; unfold inBlk; omega
                    have hle2 : a2 ≤ n := by rw [← ha2, ← HE.out.len]; exact blk_le (by rw [HE.out.len]; omega)
                    have hge2 : m2 ≤ a2 := by rw [← ha2]; exact blk_ge b _
                    have HBL2 := Lib.hid (And.intro ha2 hkk2)
                    have HRD2 := Lib.hid hrd2
                    clear ha2 hkk2 hrd2
                    go_wp2_with (at_builtin; refine wpList_append_known rfl (.tmp 212) (.tmp 215) 26 rfl (.slice (some ⟨g, 0, none⟩) m cap) (.slice Am ml capm) _ V8 rfl rfl HRUN8.out ?_)
                    refine (refBlanks_any A2 (n - m2) (c - m2) (b.drop m2) V8 (by rw [List.length_drop, HE.out.len]) (by omega) (by omega) (HRD2.out _ (HE.out.rd.below HV8.out.2.1))).mono ?_
                    rintro e w' ⟨rfl, rfl⟩
                    rw [HBL2.out.2]
                    clear HRUN8
                    have hr4 := HRG.out
                    unfold Aft at hr4
                    rw [HBL2.out.1] at hr4
                    by_cases hlt2 : a2 < n
                    · obtain ⟨aB, oB, hA, hcB⟩ := (HE.out.rd.below HV8.out.2.1).addr (by rw [HE.out.len]; omega)
                      have cB := hcB a2 (by rw [HE.out.len]; exact hlt2)
                      subst hA
                      have dlt2 : (a2 : Int) < (n : Int) := by omega
                      by_cases h93 : b.getD a2 0 = 125
                      · rw [if_pos h93] at hr4
                        rw [h93] at cB
                        have HR4 := Lib.hid hr4
                        clear hr4 hcB h93
                        obtain ⟨c6, f6, h6⟩ := HN8.out.endAt HN8L.out (a2 + 1) ((a2 : Int) + 1) (by omega)
                        have hg8 : W1.heap.size ≤ g8 := (HN8.out.blockB (k := g8) rfl).1
                        have H6 := Lib.hid h6
                        have hm80 : 0 < m8 := by omega
                        have hm81 : (0 : Int) < (m8 : Int) := by omega
                        have hm82 : ¬ m8 = 0 := by omega
                        clear h6
                        go_wp2_with fail
                        go_ret3
                        rw [HRES.out, HR4.out]
                        exact ⟨_, _, rfl, H6.out.low HB1.out.size, rfl, HV8.out.2.2.setCell (p := ⟨g8, 6, none⟩) (Nat.le_trans HB1.out.size hg8) _⟩
                      · rw [if_neg h93] at hr4
                        by_cases h44 : b.getD a2 0 = 44
                        · rw [if_pos h44] at hr4
                          rw [h44] at cB
                          obtain ⟨i3, hi3⟩ : ∃ i3, a2 + 1 = i3 := ⟨_, rfl⟩
                          rw [hi3] at hr4
                          have hi3z : (a2 : Int) + 1 = (i3 : Int) := by omega
                          have hi3n : i3 ≤ n := by omega
                          have HR4 := Lib.hid hr4
                          clear hr4 hcB h93 h44
                          obtain ⟨A3, hsl3, -, hrd3⟩ := slice_l _ n c i3 b HE.out.len HE.out.le HE.out.nil (by omega)
                          obtain ⟨a3, ha3⟩ : ∃ a, inBlk b i3 = a := ⟨_, rfl⟩
                          obtain ⟨kk3, hkk3⟩ : ∃ k, blkF (b.drop i3) = k := ⟨_, rfl⟩
                          have hsum3 : ((i3 : Nat) : Int) + (kk3 : Int) = (a3 : Int) := by rw [← ha3, ← hkk3]; unfold inBlk; omega
                          have hle3 : a3 ≤ n := by rw [← ha3, ← HE.out.len]; exact blk_le (by rw [HE.out.len]; omega)
                          have hge3 : i3 ≤ a3 := by rw [← ha3]; exact blk_ge b _
                          have HBL3 := Lib.hid (And.intro ha3 hkk3)
                          have HRD3 := Lib.hid hrd3
                          clear ha3 hkk3 hrd3
                          have HI3 := Lib.hid hi3z
                          rw [← hi3z] at hsl3 hsum3
                          clear hi3z
                          go_wp2_with fail
                          refine (refBlanks_any A3 (n - i3) (c - i3) (b.drop i3) V8 (by rw [List.length_drop, HE.out.len]) (by omega) (by omega) (HRD3.out _ (HE.out.rd.below HV8.out.2.1))).mono ?_
                          rintro e w' ⟨rfl, rfl⟩
                          rw [HBL3.out.2]
                          go_wp2_with fail
                          go_roundg (n - a3)
                          case rel =>
                            obtain ⟨Gg, rfl⟩ : ∃ Gg, Gf = Gg + 1 := ⟨Gf - 1, by omega⟩
                            have hrr := HR4.out
                            rw [HBL3.out.1] at hrr
                            have hQQ : m8 = 1 + (Q ++ QM).length := by have := HN8L.out; rw [List.length_cons] at this; omega
                            have hQl : (Q ++ QM).length = Q.length + ml := by rw [List.length_append, HLM.out.2]
                            refine ⟨a3, Gg, m8, g8, cap8, ks ++ [m], _, Q ++ QM, false, by omega, rfl, rfl, hcap8.1, hcap8.2, rfl, ?_, by omega, ?_, hQQ, HN8.out, HV8.out.1, by omega, by rw [List.length_append]; simp; omega⟩
                            · rw [if_neg (by rintro ⟨h, _⟩; cases h)]; exact hrr
                            · rw [← HBL3.out.1]; exact blk_idem b i3
                          case measure => omega
                        · rw [if_neg h44] at hr4
                          have HR4 := Lib.hid hr4
                          have q93 : (b.getD a2 0 == 125) = false := beq_eq_false_iff_ne.2 h93
                          have q44 : (b.getD a2 0 == 44) = false := beq_eq_false_iff_ne.2 h44
                          have q44' : (b.getD a2 0 != 44) = true := bne_iff_ne.2 h44
                          clear hr4 hcB h93 h44
                          generalize b.getD a2 0 = xb at cB q93 q44 q44'
                          go_wp2_with fail
                          go_ret3
                          rw [HRES.out, HR4.out]
                          exact ⟨rfl, HV8.out.2.2, by decide⟩
                    · have h0 : b.getD a2 0 = 0 := by simp [List.getD, List.getElem?_eq_none (show b.length ≤ a2 by rw [HE.out.len]; omega)]
                      rw [if_neg (by rw [h0]; decide), if_neg (by rw [h0]; decide)] at hr4
                      have HR4 := Lib.hid hr4
                      have dlt2 : decide ((a2 : Int) < (n : Int)) = false := decide_eq_false (by omega)
                      have dlt3 : ¬ (a2 : Int) < (n : Int) := by omega
                      have dlt4 : (n : Int) ≤ (a2 : Int) := by omega
                      clear hr4 h0
                      go_wp2_with fail
                      go_ret3
                      rw [HRES.out, HR4.out]
                      exact ⟨rfl, HV8.out.2.2, by decide⟩
end
section
variable {w W : World} {A : Option Addr} {n c s k s2 : Nat} {b tg an : List Int} {fl : Bool} {d : Int} {child : Nat → Nat → InR} {deep : Bool}
set_option maxHeartbeats 8000000 in
theorem rnodeDeep123_at (E : REnv w A n c b) (hw : Below w.heap.size w W) (hs : s ≤ n) (hp : Pr.takeP (b.drop s) = (tg, an, k, true)) (h2 : inBlk b (s + k) = s2) (hcv : b.getD s2 0 = 123) (hdd : 64 ≤ d) (hdp : deep = true) :
    Calls Try.prog 75 #[.slice A n c, .int .i64 (s : Int), .bool fl, .int .i64 d] W (RNodeP W (inNodeG child deep b fl s 0)) := by
  have hn := E.small
  have hnc := E.le
  have hcm := E.cap
  have HE := Lib.hid E
  have HW := Lib.hid hw
  have hkl : s + k ≤ n := by
    have := takeP_len (b.drop s)
    rw [hp, List.length_drop, E.len] at this
    simp only at this
    omega
  have hk1 : (Pr.takeP (b.drop s)).2.2.1 = k := by rw [hp]
  have hk2 : (Pr.takeP (b.drop s)).2.2.2 = true := by rw [hp]
  have hk3 : (Pr.takeP (b.drop s)).1 = tg := by rw [hp]
  have hk4 : (Pr.takeP (b.drop s)).2.1 = an := by rw [hp]
  obtain ⟨As, hsls, hAs, hrds⟩ := slice_l _ n c s b E.len E.le E.nil hs
  have HRS := Lib.hid (And.intro hrds hAs)
  obtain ⟨s1, hs1⟩ : ∃ s1, s + k = s1 := ⟨_, rfl⟩
  have hs1z : (s : Int) + (k : Int) = (s1 : Int) := by omega
  have hs1n : s1 ≤ n := by omega
  have h2' := h2
  rw [hs1] at h2'
  obtain ⟨A2, hsl2, -, hrd2⟩ := slice_l _ n c s1 b E.len E.le E.nil hs1n
  obtain ⟨kk, hkk⟩ : ∃ z, blkF (b.drop s1) = z := ⟨_, rfl⟩
  have hsum : (s1 : Int) + (kk : Int) = (s2 : Int) := by rw [← h2', ← hkk]; unfold inBlk; omega
  have hs2n : s2 ≤ n := by rw [← h2', ← E.len]; exact blk_le (by rw [E.len]; exact hs1n)
  have hs12 : s1 ≤ s2 := by rw [← h2']; exact blk_ge b _
  obtain ⟨A3, hsl3, hA3, hrd3⟩ := slice_l _ n c s2 b E.len E.le E.nil hs2n
  obtain ⟨st0, hst0⟩ : ∃ z, (if k = 0 then s2 else s) = z := ⟨_, rfl⟩
  have HST := Lib.hid hst0
  have HRD2 := Lib.hid hrd2
  have HRD3 := Lib.hid (And.intro hrd3 hA3)
  have HKK := Lib.hid hkk
  have HP := Lib.hid hp
  have H2 := Lib.hid (And.intro h2 hs1)
  have HK := Lib.hid (And.intro hk1 (And.intro hk2 (And.intro hk3 hk4)))
  clear E hw hp h2 h2' hs1 hkk hrds hAs hrd2 hrd3 hA3 hst0 hk1 hk2 hk3 hk4
  go_enter Try.func75, Try.ntmps75
  go_wp2_with fail
  refine (Pr.refTake_any As (n - s) (c - s) (b.drop s) W (by rw [List.length_drop, HE.out.len]) (by omega) (by omega) HRS.out.2 (HE.out.byte.drop s) (HRS.out.1 _ (HE.out.rd.below HW.out))).mono ?_
  rintro e W0 ⟨t, a, ht, ha, rfl, hb0⟩
  rw [HK.out.2.2.1] at ht
  rw [HK.out.2.2.2] at ha
  rw [HK.out.1, HK.out.2.1]
  have HTA := Lib.hid (And.intro ht ha)
  have HB0 := Lib.hid hb0
  clear ht ha hb0 hsls HRS
  go_upto_region 2 with fail
  obtain ⟨W1, hW1⟩ : ∃ W1, W0.alloc (.cells #[.string t, .string a] 113) = W1 := ⟨_, rfl⟩
  obtain ⟨gp, hgp⟩ : ∃ g, W0.heap.size = g := ⟨_, rfl⟩
  have hb1 : Below W0.heap.size W0 W1 := by rw [← hW1]; exact (Below.refl _ _).alloc (Nat.le_refl _) _
  have p0 : W1.cell? ⟨gp, 0, none⟩ = some (.string t) := by rw [← hW1, ← hgp, World.cell?_alloc_mark]; rfl
  have p1 : W1.cell? ⟨gp, 1, none⟩ = some (.string a) := by rw [← hW1, ← hgp, World.cell?_alloc_mark]; rfl
  have hs1w : W1.heap.size = gp + 1 := by rw [← hW1, ← hgp]; simp
  rw [hW1, hgp]
  have HB1 : Hid (Below W.heap.size W W1) := below_step HB0.out hb1
  have HGP : Hid (W.heap.size ≤ gp) := by show W.heap.size ≤ gp; rw [← hgp]; exact HB0.out.size
  clear hW1 hgp hb1 HB0
  have P1 := Lib.hid p0
  go_wp2_with fail
  refine (refBlanks_any A2 (n - s1) (c - s1) (b.drop s1) W1 (by rw [List.length_drop, HE.out.len]) (by omega) (by omega) (HRD2.out _ (HE.out.rd.below (below_step HW.out HB1.out)))).mono ?_
  rintro e w' ⟨rfl, rfl⟩
  rw [HKK.out]
  clear hsl2 HRD2
  go_upto_region 7 with fail
  obtain ⟨W2, hW2⟩ : ∃ W2, W1.alloc (.cells #[.int .i64 0, .int .i64 0, .string ⟨#[]⟩, .string a, .string ⟨#[]⟩, .int .i64 (s : Int), .int .i64 0, .int .i64 0, .int .i64 0, .slice none 0 0] 41) = W2 := ⟨_, rfl⟩
  obtain ⟨gx, hgx⟩ : ∃ g, gp + 1 = g := ⟨_, rfl⟩
  have bx : Box W2 gx [.int .i64 0, .int .i64 0, .string ⟨#[]⟩, .string a, .string ⟨#[]⟩, .int .i64 (s : Int), .int .i64 0, .int .i64 0, .int .i64 0, .slice none 0 0] := by rw [← hW2, ← hgx, ← hs1w]; exact Box.new W1 _
  have hb2 : Below W1.heap.size W1 W2 := by rw [← hW2]; exact (Below.refl _ _).alloc (Nat.le_refl _) _
  rw [hgx, hW2]
  have p2 : W2.cell? ⟨gp, 0, none⟩ = some (.string t) := cell_keep hb2 p0
  have hne : gx ≠ gp := by omega
  have HNE := Lib.hid hne
  have HB2 : Hid (Below W.heap.size W W2) := below_step HB1.out hb2
  have HX2 := Lib.hid bx
  have HGX : Hid (W.heap.size ≤ gx) := by show W.heap.size ≤ gx; have := HGP.out; omega
  clear hW2 hgx hb2 p0 p1 hs1w bx hne HB1 HGP P1
  have P2 := Lib.hid p2
  clear p2
  have x5 := HX2.out.cell 5 _ rfl
  have f5 := HX2.out.frozen 5
  go_upto_if 48 with fail
  go_cut [14] from 49 to 50 (fun v U => v = .int .i64 (s2 : Int) ∧ Hid (Box U gx [.int .i64 0, .int .i64 0, .string ⟨#[]⟩, .string a, .string ⟨#[]⟩, .int .i64 (st0 : Int), .int .i64 0, .int .i64 0, .int .i64 0, .slice none 0 0] ∧ U.cell? ⟨gp, 0, none⟩ = some (.string t) ∧ Below W.heap.size W U))
  case first =>
    by_cases hk0 : k = 0
    · have hst : s2 = st0 := by have := HST.out; rw [if_pos hk0] at this; exact this
      have HST1 := Lib.hid hst
      clear hst
      subst hk0
      simp only [show ((0 : Nat) : Int) = 0 from rfl]
      go_wp2_with fail
      go_meet
      refine ⟨rfl, ?_, ?_, ?_⟩
      · rw [← HST1.out]; exact HX2.out.set 5 (.int .i64 (s2 : Int))
      · rw [World.cell?_setCell_other _ _ _ _ (by intro e; injection e with e; exact HNE.out e)]; exact P2.out
      · exact HB2.out.setCell (p := ⟨gx, 5, none⟩) HGX.out _
    · have hst : s = st0 := by have := HST.out; rw [if_neg hk0] at this; exact this
      have HST1 := Lib.hid hst
      have hk0' : ¬ (k : Int) = 0 := by omega
      have hk0'' : ((k : Int) == 0) = false := beq_eq_false_iff_ne.2 hk0'
      clear hst
      go_wp2_with fail
      go_meet
      refine ⟨rfl, ?_, P2.out, HB2.out⟩
      rw [← HST1.out]; exact HX2.out
  case rest =>
    obtain ⟨rfl, HC⟩ := hcut
    obtain ⟨V, hV⟩ : ∃ z, z = wc := ⟨_, rfl⟩
    subst hV
    have HX : Hid (Box V gx [.int .i64 0, .int .i64 0, .string ⟨#[]⟩, .string a, .string ⟨#[]⟩, .int .i64 (st0 : Int), .int .i64 0, .int .i64 0, .int .i64 0, .slice none 0 0]) := HC.out.1
    have HP0 : Hid (V.cell? ⟨gp, 0, none⟩ = some (.string t)) := HC.out.2.1
    have HB : Hid (Below W.heap.size W V) := HC.out.2.2
    have HWV : Hid (Below w.heap.size w V) := below_step HW.out HB.out
    clear HC x5 f5 HX2 P2 HB2
    have hlt : s2 < n := by rw [← HE.out.len]; exact getD_lt (by rw [hcv]; decide)
    obtain ⟨aa, oo, hAe, hcell⟩ := (HE.out.rd.below HWV.out).addr (by rw [HE.out.len]; omega)
    have cs := hcell s2 (by rw [HE.out.len]; exact hlt)
    rw [hcv] at cs
    subst hAe
    have dlt : (s2 : Int) < (n : Int) := by omega
    clear hcell
    have hre : inNodeG child deep b fl s 0 = .error 3 := by
      unfold inNodeG
      rw [HP.out]
      dsimp only
      rw [if_pos rfl, H2.out.1]
      have hcont : inCont child deep b fl s2 (0 + 1) = .error 3 := by
        unfold inCont
        rw [if_neg (by rw [hcv]; decide), if_neg (by rw [hcv]; decide), if_pos hcv, if_pos hdp]
      rw [hcont]; rfl
    have HRE := Lib.hid hre
    clear hre
    have d2 : decide ((64 : Int) ≤ d) = true := decide_eq_true hdd
    go_wp2_with fail
    go_ret3
    rw [HRE.out]
    exact ⟨rfl, HB.out, by decide⟩
set_option maxHeartbeats 8000000 in
theorem rnodeC123_at {f : Nat} (E : REnv w A n c b) (hw : Below w.heap.size w W) (hs : s ≤ n) (hp : Pr.takeP (b.drop s) = (tg, an, k, true)) (h2 : inBlk b (s + k) = s2) (hcv : b.getD s2 0 = 123) (hd0 : 0 ≤ d) (hdd : d < 64) (hf : (64 - (d + 1)).toNat = f) (C : RNodeC w A n c b f) :
    Calls Try.prog 75 #[.slice A n c, .int .i64 (s : Int), .bool fl, .int .i64 d] W (RNodeP W (inNodeG (inNode f b true) false b fl s 0)) := by
  have HC := Lib.hid C
  clear C
  have hn := E.small
  have hnc := E.le
  have hcm := E.cap
  have HE := Lib.hid E
  have HW := Lib.hid hw
  have hkl : s + k ≤ n := by
    have := takeP_len (b.drop s)
    rw [hp, List.length_drop, E.len] at this
    simp only at this
    omega
  have hk1 : (Pr.takeP (b.drop s)).2.2.1 = k := by rw [hp]
  have hk2 : (Pr.takeP (b.drop s)).2.2.2 = true := by rw [hp]
  have hk3 : (Pr.takeP (b.drop s)).1 = tg := by rw [hp]
  have hk4 : (Pr.takeP (b.drop s)).2.1 = an := by rw [hp]
  obtain ⟨As, hsls, hAs, hrds⟩ := slice_l _ n c s b E.len E.le E.nil hs
  have HRS := Lib.hid (And.intro hrds hAs)
  obtain ⟨s1, hs1⟩ : ∃ s1, s + k = s1 := ⟨_, rfl⟩
  have hs1z : (s : Int) + (k : Int) = (s1 : Int) := by omega
  have hs1n : s1 ≤ n := by omega
  have h2' := h2
  rw [hs1] at h2'
  obtain ⟨A2, hsl2, -, hrd2⟩ := slice_l _ n c s1 b E.len E.le E.nil hs1n
  obtain ⟨kk, hkk⟩ : ∃ z, blkF (b.drop s1) = z := ⟨_, rfl⟩
  have hsum : (s1 : Int) + (kk : Int) = (s2 : Int) := by rw [← h2', ← hkk]; unfold inBlk; omega
  have hs2n : s2 ≤ n := by rw [← h2', ← E.len]; exact blk_le (by rw [E.len]; exact hs1n)
  have hs12 : s1 ≤ s2 := by rw [← h2']; exact blk_ge b _
  obtain ⟨A3, hsl3, hA3, hrd3⟩ := slice_l _ n c s2 b E.len E.le E.nil hs2n
  obtain ⟨st0, hst0⟩ : ∃ z, (if k = 0 then s2 else s) = z := ⟨_, rfl⟩
  have HST := Lib.hid hst0
  have HRD2 := Lib.hid hrd2
  have HRD3 := Lib.hid (And.intro hrd3 hA3)
  have HKK := Lib.hid hkk
  have HP := Lib.hid hp
  have H2 := Lib.hid (And.intro h2 hs1)
  have HK := Lib.hid (And.intro hk1 (And.intro hk2 (And.intro hk3 hk4)))
  clear E hw hp h2 h2' hs1 hkk hrds hAs hrd2 hrd3 hA3 hst0 hk1 hk2 hk3 hk4
  go_enter Try.func75, Try.ntmps75
  go_wp2_with fail
  refine (Pr.refTake_any As (n - s) (c - s) (b.drop s) W (by rw [List.length_drop, HE.out.len]) (by omega) (by omega) HRS.out.2 (HE.out.byte.drop s) (HRS.out.1 _ (HE.out.rd.below HW.out))).mono ?_
  rintro e W0 ⟨t, a, ht, ha, rfl, hb0⟩
  rw [HK.out.2.2.1] at ht
  rw [HK.out.2.2.2] at ha
  rw [HK.out.1, HK.out.2.1]
  have HTA := Lib.hid (And.intro ht ha)
  have HB0 := Lib.hid hb0
  clear ht ha hb0 hsls HRS
  go_upto_region 2 with fail
  obtain ⟨W1, hW1⟩ : ∃ W1, W0.alloc (.cells #[.string t, .string a] 113) = W1 := ⟨_, rfl⟩
  obtain ⟨gp, hgp⟩ : ∃ g, W0.heap.size = g := ⟨_, rfl⟩
  have hb1 : Below W0.heap.size W0 W1 := by rw [← hW1]; exact (Below.refl _ _).alloc (Nat.le_refl _) _
  have p0 : W1.cell? ⟨gp, 0, none⟩ = some (.string t) := by rw [← hW1, ← hgp, World.cell?_alloc_mark]; rfl
  have p1 : W1.cell? ⟨gp, 1, none⟩ = some (.string a) := by rw [← hW1, ← hgp, World.cell?_alloc_mark]; rfl
  have hs1w : W1.heap.size = gp + 1 := by rw [← hW1, ← hgp]; simp
  rw [hW1, hgp]
  have HB1 : Hid (Below W.heap.size W W1) := below_step HB0.out hb1
  have HGP : Hid (W.heap.size ≤ gp) := by show W.heap.size ≤ gp; rw [← hgp]; exact HB0.out.size
  clear hW1 hgp hb1 HB0
  have P1 := Lib.hid p0
  go_wp2_with fail
  refine (refBlanks_any A2 (n - s1) (c - s1) (b.drop s1) W1 (by rw [List.length_drop, HE.out.len]) (by omega) (by omega) (HRD2.out _ (HE.out.rd.below (below_step HW.out HB1.out)))).mono ?_
  rintro e w' ⟨rfl, rfl⟩
  rw [HKK.out]
  clear hsl2 HRD2
  go_upto_region 7 with fail
  obtain ⟨W2, hW2⟩ : ∃ W2, W1.alloc (.cells #[.int .i64 0, .int .i64 0, .string ⟨#[]⟩, .string a, .string ⟨#[]⟩, .int .i64 (s : Int), .int .i64 0, .int .i64 0, .int .i64 0, .slice none 0 0] 41) = W2 := ⟨_, rfl⟩
  obtain ⟨gx, hgx⟩ : ∃ g, gp + 1 = g := ⟨_, rfl⟩
  have bx : Box W2 gx [.int .i64 0, .int .i64 0, .string ⟨#[]⟩, .string a, .string ⟨#[]⟩, .int .i64 (s : Int), .int .i64 0, .int .i64 0, .int .i64 0, .slice none 0 0] := by rw [← hW2, ← hgx, ← hs1w]; exact Box.new W1 _
  have hb2 : Below W1.heap.size W1 W2 := by rw [← hW2]; exact (Below.refl _ _).alloc (Nat.le_refl _) _
  rw [hgx, hW2]
  have p2 : W2.cell? ⟨gp, 0, none⟩ = some (.string t) := cell_keep hb2 p0
  have hne : gx ≠ gp := by omega
  have HNE := Lib.hid hne
  have HB2 : Hid (Below W.heap.size W W2) := below_step HB1.out hb2
  have HX2 := Lib.hid bx
  have HGX : Hid (W.heap.size ≤ gx) := by show W.heap.size ≤ gx; have := HGP.out; omega
  clear hW2 hgx hb2 p0 p1 hs1w bx hne HB1 HGP P1
  have P2 := Lib.hid p2
  clear p2
  have x5 := HX2.out.cell 5 _ rfl
  have f5 := HX2.out.frozen 5
  go_upto_if 48 with fail
  go_cut [14] from 49 to 50 (fun v U => v = .int .i64 (s2 : Int) ∧ Hid (Box U gx [.int .i64 0, .int .i64 0, .string ⟨#[]⟩, .string a, .string ⟨#[]⟩, .int .i64 (st0 : Int), .int .i64 0, .int .i64 0, .int .i64 0, .slice none 0 0] ∧ U.cell? ⟨gp, 0, none⟩ = some (.string t) ∧ Below W.heap.size W U))
  case first =>
    by_cases hk0 : k = 0
    · have hst : s2 = st0 := by have := HST.out; rw [if_pos hk0] at this; exact this
      have HST1 := Lib.hid hst
      clear hst
      subst hk0
      simp only [show ((0 : Nat) : Int) = 0 from rfl]
      go_wp2_with fail
      go_meet
      refine ⟨rfl, ?_, ?_, ?_⟩
      · rw [← HST1.out]; exact HX2.out.set 5 (.int .i64 (s2 : Int))
      · rw [World.cell?_setCell_other _ _ _ _ (by intro e; injection e with e; exact HNE.out e)]; exact P2.out
      · exact HB2.out.setCell (p := ⟨gx, 5, none⟩) HGX.out _
    · have hst : s = st0 := by have := HST.out; rw [if_neg hk0] at this; exact this
      have HST1 := Lib.hid hst
      have hk0' : ¬ (k : Int) = 0 := by omega
      have hk0'' : ((k : Int) == 0) = false := beq_eq_false_iff_ne.2 hk0'
      clear hst
      go_wp2_with fail
      go_meet
      refine ⟨rfl, ?_, P2.out, HB2.out⟩
      rw [← HST1.out]; exact HX2.out
  case rest =>
    obtain ⟨rfl, HC⟩ := hcut
    obtain ⟨V, hV⟩ : ∃ z, z = wc := ⟨_, rfl⟩
    subst hV
    have HX : Hid (Box V gx [.int .i64 0, .int .i64 0, .string ⟨#[]⟩, .string a, .string ⟨#[]⟩, .int .i64 (st0 : Int), .int .i64 0, .int .i64 0, .int .i64 0, .slice none 0 0]) := HC.out.1
    have HP0 : Hid (V.cell? ⟨gp, 0, none⟩ = some (.string t)) := HC.out.2.1
    have HB : Hid (Below W.heap.size W V) := HC.out.2.2
    have HWV : Hid (Below w.heap.size w V) := below_step HW.out HB.out
    clear HC x5 f5 HX2 P2 HB2
    have hlt : s2 < n := by rw [← HE.out.len]; exact getD_lt (by rw [hcv]; decide)
    obtain ⟨aa, oo, hAe, hcell⟩ := (HE.out.rd.below HWV.out).addr (by rw [HE.out.len]; omega)
    have cs := hcell s2 (by rw [HE.out.len]; exact hlt)
    rw [hcv] at cs
    subst hAe
    have dlt : (s2 : Int) < (n : Int) := by omega
    clear hcell
    have d2 : decide ((64 : Int) ≤ d) = false := decide_eq_false (by omega)
    have d3 : ¬ (64 : Int) ≤ d := by omega
    have HX4 : Hid (Box (((V.setCell ⟨gx, 0, none⟩ (.int .i64 2)).setCell ⟨gx, 1, none⟩ (.int .i64 7)).setCell ⟨gx, 0, none⟩ (.int .i64 3)) gx [.int .i64 3, .int .i64 7, .string ⟨#[]⟩, .string a, .string ⟨#[]⟩, .int .i64 (st0 : Int), .int .i64 0, .int .i64 0, .int .i64 0, .slice none 0 0]) := (((HX.out.set 0 (.int .i64 2)).set 1 (.int .i64 7)).set 0 (.int .i64 3))
    have HB4 : Hid (Below W.heap.size W (((V.setCell ⟨gx, 0, none⟩ (.int .i64 2)).setCell ⟨gx, 1, none⟩ (.int .i64 7)).setCell ⟨gx, 0, none⟩ (.int .i64 3))) := (((HB.out.setCell (p := ⟨gx, 0, none⟩) HGX.out (.int .i64 2)).setCell (p := ⟨gx, 1, none⟩) HGX.out (.int .i64 7)).setCell (p := ⟨gx, 0, none⟩) HGX.out (.int .i64 3))
    have HP4 : Hid (World.cell? (((V.setCell ⟨gx, 0, none⟩ (.int .i64 2)).setCell ⟨gx, 1, none⟩ (.int .i64 7)).setCell ⟨gx, 0, none⟩ (.int .i64 3)) ⟨gp, 0, none⟩ = some (.string t)) := by
      show World.cell? _ _ = _
      rw [World.cell?_setCell_other _ _ _ _ (by intro e; injection e with e; exact HNE.out e), World.cell?_setCell_other _ _ _ _ (by intro e; injection e with e; exact HNE.out e), World.cell?_setCell_other _ _ _ _ (by intro e; injection e with e; exact HNE.out e)]
      exact HP0.out
    have y0 := HX.out.cell 0 _ rfl
    have fy0 := HX.out.frozen 0
    have y1 := HX.out.cell 1 _ rfl
    have fy1 := HX.out.frozen 1
    go_upto_region 33 with fail
    generalize (((V.setCell ⟨gx, 0, none⟩ (.int .i64 2)).setCell ⟨gx, 1, none⟩ (.int .i64 7)).setCell ⟨gx, 0, none⟩ (.int .i64 3)) = V4 at *
    clear HX HB HP0 cs
    clear y0 fy0 y1 fy1
    obtain ⟨r, hrr⟩ : ∃ r, strOfNums (inTag 3 7 (byt t) (byt ⟨#[]⟩)) = r := ⟨_, rfl⟩
    have HRR := Lib.hid hrr
    have x0 := HX4.out.cell 0 _ rfl
    have x1 := HX4.out.cell 1 _ rfl
    have p5 := HP4.out
    clear hrr
    go_wp2_with fail
    refine (rtag_at (w := V4) (W := V4) (Below.refl _ _) 3 7 t ⟨#[]⟩ (by decide) r HRR.out).mono ?_
    rintro e V6 ⟨rfl, hb6⟩
    have HX6 := Lib.hid (HX4.out.below hb6)
    have x2 := HX6.out.cell 2 _ rfl
    have f2 := HX6.out.frozen 2
    have HX7 := Lib.hid (HX6.out.set 2 (.string r))
    have HB7 : Hid (Below W.heap.size W (V6.setCell ⟨gx, 2, none⟩ (.string r))) := (below_step HB4.out hb6).setCell (p := ⟨gx, 2, none⟩) HGX.out _
    clear x0 x1 p5 hb6 HX4 HB4 HP4
    go_upto_region 34 with fail
    generalize V6.setCell ⟨gx, 2, none⟩ (.string r) = V7 at *
    clear x2 f2 HX6
    have x5 := HX7.out.cell 5 _ rfl
    have x7 := HX7.out.cell 7 _ rfl
    have f7 := HX7.out.frozen 7
    have x8 := HX7.out.cell 8 _ rfl
    have f8 := HX7.out.frozen 8
    have HX8 : Hid (Box ((V7.setCell ⟨gx, 7, none⟩ (.int .i64 (st0 : Int))).setCell ⟨gx, 8, none⟩ (.int .i64 (st0 : Int))) gx [.int .i64 3, .int .i64 7, .string r, .string a, .string ⟨#[]⟩, .int .i64 (st0 : Int), .int .i64 0, .int .i64 (st0 : Int), .int .i64 (st0 : Int), .slice none 0 0]) := (HX7.out.set 7 _).set 8 _
    have HB8 : Hid (Below W.heap.size W ((V7.setCell ⟨gx, 7, none⟩ (.int .i64 (st0 : Int))).setCell ⟨gx, 8, none⟩ (.int .i64 (st0 : Int)))) := (HB7.out.setCell (p := ⟨gx, 7, none⟩) HGX.out _).setCell (p := ⟨gx, 8, none⟩) HGX.out _
    go_upto_region 35 with fail
    generalize (V7.setCell ⟨gx, 7, none⟩ (.int .i64 (st0 : Int))).setCell ⟨gx, 8, none⟩ (.int .i64 (st0 : Int)) = V8 at *
    clear x5 x7 f7 x8 f8 HX7 HB7
    have x0 := HX8.out.cell 0 _ rfl
    have x1 := HX8.out.cell 1 _ rfl
    have x2 := HX8.out.cell 2 _ rfl
    have x3 := HX8.out.cell 3 _ rfl
    have x4 := HX8.out.cell 4 _ rfl
    have x5 := HX8.out.cell 5 _ rfl
    have x6 := HX8.out.cell 6 _ rfl
    have x7 := HX8.out.cell 7 _ rfl
    have x8 := HX8.out.cell 8 _ rfl
    have x9 := HX8.out.cell 9 _ rfl
    have er : strOfNums (inTag 3 7 tg []) = r := by have := HRR.out; rw [HTA.out.1] at this; exact this
    have ea : strOfNums an = a := by rw [← HTA.out.2, strOfNums_byt]
    have hcx : (ndC ((⟨3, 7, inTag 3 7 tg [], an, [], st0, 0, st0, st0, []⟩ : Nd), .slice none 0 0)).toArray = #[.int .i64 3, .int .i64 7, .string r, .string a, .string ⟨#[]⟩, .int .i64 (st0 : Int), .int .i64 0, .int .i64 (st0 : Int), .int .i64 (st0 : Int), .slice none 0 0] := by
      simp only [ndC, er, ea]; rfl
    have C := map_at HE.out HC.out V8 (below_step HW.out HB8.out) s2 (by omega) d hd0 hdd hf ⟨3, 7, inTag 3 7 tg [], an, [], st0, 0, st0, st0, []⟩ rfl rfl
    rw [hcx] at C
    obtain ⟨res, hres⟩ : ∃ res, inColl (inPair (inNode f b true) b) b 125 s2 1 = res := ⟨_, rfl⟩
    rw [hres] at C
    have hcont : inNodeG (inNode f b true) false b fl s 0 = rcN 3 tg an st0 res := by
      unfold inNodeG
      rw [HP.out]
      dsimp only
      rw [if_pos rfl, H2.out.1]
      have hcont : inCont (inNode f b true) false b fl s2 (0 + 1) = rcK 3 res := by
        unfold inCont
        rw [if_neg (by rw [hcv]; decide), if_neg (by rw [hcv]; decide), if_pos hcv, if_neg (by decide)]
        rw [show inColl (inPair (inNode f b true) b) b 125 s2 (0 + 1) = res from hres]
        cases res with
        | error q => rfl
        | ok z =>
          obtain ⟨ks, l, m⟩ := z
          rfl
      rw [hcont]
      cases res with
      | error q => rfl
      | ok z =>
        obtain ⟨ks, l, m⟩ := z
        simp only [inDone, rcK, rcN]
        rw [if_neg (by rintro ⟨h, _⟩; cases h), if_neg (by decide)]
        have e := HST.out
        rw [e]
        simp [inFin, Nd.nil]
    have HCALL := Lib.hid C
    have HCT := Lib.hid hcont
    clear C hcont hres er ea hcx
    go_wp2_with fail
    refine HCALL.out.mono ?_
    clear HCALL x0 x1 x2 x3 x4 x5 x6 x7 x8 x9
    intro e V9 h9
    cases res with
    | error q =>
      obtain ⟨rfl, hb9, hq⟩ := h9
      have HE9 := Lib.hid (And.intro hb9 hq)
      have hre : inNodeG (inNode f b true) false b fl s 0 = .error q := HCT.out
      have HRE := Lib.hid hre
      clear hb9 hq hre
      go_wp2_with fail
      go_ret3
      rw [HRE.out]
      exact ⟨rfl, below_step HB8.out HE9.out.1, HE9.out.2⟩
    | ok z =>
      obtain ⟨ks, l, m⟩ := z
      obtain ⟨v9, P9, rfl, hN9, hL9, hb9⟩ := h9
      have HN9 := Lib.hid (hN9.low HB8.out.size)
      obtain ⟨A9, c9, rfl, _⟩ := own_form hN9.row
      have HL9 := Lib.hid hL9
      have HB9 := Lib.hid (below_step HB8.out hb9)
      have hre : inNodeG (inNode f b true) false b fl s 0 = .ok (⟨3, 7, inTag 3 7 tg [], an, [], st0, m, st0, st0, ks⟩ :: l, m) := HCT.out
      have HRE := Lib.hid hre
      clear hN9 hL9 hb9 hre
      go_wp2_with fail
      go_ret3
      rw [HRE.out]
      exact ⟨_, P9, rfl, HN9.out, HL9.out, HB9.out⟩
end
section
variable {w W : World} {A : Option Addr} {n c s k s2 : Nat} {b tg an : List Int} {fl : Bool} {d : Int} {child : Nat → Nat → InR} {deep : Bool}
set_option maxHeartbeats 8000000 in
theorem rnodePl_at (E : REnv w A n c b) (hw : Below w.heap.size w W) (hs : s ≤ n) (hp : Pr.takeP (b.drop s) = (tg, an, k, true)) (h2 : inBlk b (s + k) = s2) (h42 : b.getD s2 0 ≠ 42) (h34 : b.getD s2 0 ≠ 34) (h39 : b.getD s2 0 ≠ 39) (h91 : b.getD s2 0 ≠ 91) (h123 : b.getD s2 0 ≠ 123) (hsf : startF (b.drop s2) fl = true) :
    Calls Try.prog 75 #[.slice A n c, .int .i64 (s : Int), .bool fl, .int .i64 d] W (RNodeP W (inNodeG child deep b fl s 0)) := by
  have hn := E.small
  have hnc := E.le
  have hcm := E.cap
  have HE := Lib.hid E
  have HW := Lib.hid hw
  have hkl : s + k ≤ n := by
    have := takeP_len (b.drop s)
    rw [hp, List.length_drop, E.len] at this
    simp only at this
    omega
  have hk1 : (Pr.takeP (b.drop s)).2.2.1 = k := by rw [hp]
  have hk2 : (Pr.takeP (b.drop s)).2.2.2 = true := by rw [hp]
  have hk3 : (Pr.takeP (b.drop s)).1 = tg := by rw [hp]
  have hk4 : (Pr.takeP (b.drop s)).2.1 = an := by rw [hp]
  obtain ⟨As, hsls, hAs, hrds⟩ := slice_l _ n c s b E.len E.le E.nil hs
  have HRS := Lib.hid (And.intro hrds hAs)
  obtain ⟨s1, hs1⟩ : ∃ s1, s + k = s1 := ⟨_, rfl⟩
  have hs1z : (s : Int) + (k : Int) = (s1 : Int) := by omega
  have hs1n : s1 ≤ n := by omega
  have h2' := h2
  rw [hs1] at h2'
  obtain ⟨A2, hsl2, -, hrd2⟩ := slice_l _ n c s1 b E.len E.le E.nil hs1n
  obtain ⟨kk, hkk⟩ : ∃ z, blkF (b.drop s1) = z := ⟨_, rfl⟩
  have hsum : (s1 : Int) + (kk : Int) = (s2 : Int) := by rw [← h2', ← hkk]; unfold inBlk; omega
  have hs2n : s2 ≤ n := by rw [← h2', ← E.len]; exact blk_le (by rw [E.len]; exact hs1n)
  have hs12 : s1 ≤ s2 := by rw [← h2']; exact blk_ge b _
  obtain ⟨A3, hsl3, hA3, hrd3⟩ := slice_l _ n c s2 b E.len E.le E.nil hs2n
  obtain ⟨st0, hst0⟩ : ∃ z, (if k = 0 then s2 else s) = z := ⟨_, rfl⟩
  have HST := Lib.hid hst0
  have HRD2 := Lib.hid hrd2
  have HRD3 := Lib.hid (And.intro hrd3 hA3)
  have HKK := Lib.hid hkk
  have HP := Lib.hid hp
  have H2 := Lib.hid (And.intro h2 hs1)
  have HK := Lib.hid (And.intro hk1 (And.intro hk2 (And.intro hk3 hk4)))
  clear E hw hp h2 h2' hs1 hkk hrds hAs hrd2 hrd3 hA3 hst0 hk1 hk2 hk3 hk4
  go_enter Try.func75, Try.ntmps75
  go_wp2_with fail
  refine (Pr.refTake_any As (n - s) (c - s) (b.drop s) W (by rw [List.length_drop, HE.out.len]) (by omega) (by omega) HRS.out.2 (HE.out.byte.drop s) (HRS.out.1 _ (HE.out.rd.below HW.out))).mono ?_
  rintro e W0 ⟨t, a, ht, ha, rfl, hb0⟩
  rw [HK.out.2.2.1] at ht
  rw [HK.out.2.2.2] at ha
  rw [HK.out.1, HK.out.2.1]
  have HTA := Lib.hid (And.intro ht ha)
  have HB0 := Lib.hid hb0
  clear ht ha hb0 hsls HRS
  go_upto_region 2 with fail
  obtain ⟨W1, hW1⟩ : ∃ W1, W0.alloc (.cells #[.string t, .string a] 113) = W1 := ⟨_, rfl⟩
  obtain ⟨gp, hgp⟩ : ∃ g, W0.heap.size = g := ⟨_, rfl⟩
  have hb1 : Below W0.heap.size W0 W1 := by rw [← hW1]; exact (Below.refl _ _).alloc (Nat.le_refl _) _
  have p0 : W1.cell? ⟨gp, 0, none⟩ = some (.string t) := by rw [← hW1, ← hgp, World.cell?_alloc_mark]; rfl
  have p1 : W1.cell? ⟨gp, 1, none⟩ = some (.string a) := by rw [← hW1, ← hgp, World.cell?_alloc_mark]; rfl
  have hs1w : W1.heap.size = gp + 1 := by rw [← hW1, ← hgp]; simp
  rw [hW1, hgp]
  have HB1 : Hid (Below W.heap.size W W1) := below_step HB0.out hb1
  have HGP : Hid (W.heap.size ≤ gp) := by show W.heap.size ≤ gp; rw [← hgp]; exact HB0.out.size
  clear hW1 hgp hb1 HB0
  have P1 := Lib.hid p0
  go_wp2_with fail
  refine (refBlanks_any A2 (n - s1) (c - s1) (b.drop s1) W1 (by rw [List.length_drop, HE.out.len]) (by omega) (by omega) (HRD2.out _ (HE.out.rd.below (below_step HW.out HB1.out)))).mono ?_
  rintro e w' ⟨rfl, rfl⟩
  rw [HKK.out]
  clear hsl2 HRD2
  go_upto_region 7 with fail
  obtain ⟨W2, hW2⟩ : ∃ W2, W1.alloc (.cells #[.int .i64 0, .int .i64 0, .string ⟨#[]⟩, .string a, .string ⟨#[]⟩, .int .i64 (s : Int), .int .i64 0, .int .i64 0, .int .i64 0, .slice none 0 0] 41) = W2 := ⟨_, rfl⟩
  obtain ⟨gx, hgx⟩ : ∃ g, gp + 1 = g := ⟨_, rfl⟩
  have bx : Box W2 gx [.int .i64 0, .int .i64 0, .string ⟨#[]⟩, .string a, .string ⟨#[]⟩, .int .i64 (s : Int), .int .i64 0, .int .i64 0, .int .i64 0, .slice none 0 0] := by rw [← hW2, ← hgx, ← hs1w]; exact Box.new W1 _
  have hb2 : Below W1.heap.size W1 W2 := by rw [← hW2]; exact (Below.refl _ _).alloc (Nat.le_refl _) _
  rw [hgx, hW2]
  have p2 : W2.cell? ⟨gp, 0, none⟩ = some (.string t) := cell_keep hb2 p0
  have hne : gx ≠ gp := by omega
  have HNE := Lib.hid hne
  have HB2 : Hid (Below W.heap.size W W2) := below_step HB1.out hb2
  have HX2 := Lib.hid bx
  have HGX : Hid (W.heap.size ≤ gx) := by show W.heap.size ≤ gx; have := HGP.out; omega
  clear hW2 hgx hb2 p0 p1 hs1w bx hne HB1 HGP P1
  have P2 := Lib.hid p2
  clear p2
  have x5 := HX2.out.cell 5 _ rfl
  have f5 := HX2.out.frozen 5
  go_upto_if 48 with fail
  go_cut [14] from 49 to 50 (fun v U => v = .int .i64 (s2 : Int) ∧ Hid (Box U gx [.int .i64 0, .int .i64 0, .string ⟨#[]⟩, .string a, .string ⟨#[]⟩, .int .i64 (st0 : Int), .int .i64 0, .int .i64 0, .int .i64 0, .slice none 0 0] ∧ U.cell? ⟨gp, 0, none⟩ = some (.string t) ∧ Below W.heap.size W U))
  case first =>
    by_cases hk0 : k = 0
    · have hst : s2 = st0 := by have := HST.out; rw [if_pos hk0] at this; exact this
      have HST1 := Lib.hid hst
      clear hst
      subst hk0
      simp only [show ((0 : Nat) : Int) = 0 from rfl]
      go_wp2_with fail
      go_meet
      refine ⟨rfl, ?_, ?_, ?_⟩
      · rw [← HST1.out]; exact HX2.out.set 5 (.int .i64 (s2 : Int))
      · rw [World.cell?_setCell_other _ _ _ _ (by intro e; injection e with e; exact HNE.out e)]; exact P2.out
      · exact HB2.out.setCell (p := ⟨gx, 5, none⟩) HGX.out _
    · have hst : s = st0 := by have := HST.out; rw [if_neg hk0] at this; exact this
      have HST1 := Lib.hid hst
      have hk0' : ¬ (k : Int) = 0 := by omega
      have hk0'' : ((k : Int) == 0) = false := beq_eq_false_iff_ne.2 hk0'
      clear hst
      go_wp2_with fail
      go_meet
      refine ⟨rfl, ?_, P2.out, HB2.out⟩
      rw [← HST1.out]; exact HX2.out
  case rest =>
    obtain ⟨rfl, HC⟩ := hcut
    obtain ⟨V, hV⟩ : ∃ z, z = wc := ⟨_, rfl⟩
    subst hV
    have HX : Hid (Box V gx [.int .i64 0, .int .i64 0, .string ⟨#[]⟩, .string a, .string ⟨#[]⟩, .int .i64 (st0 : Int), .int .i64 0, .int .i64 0, .int .i64 0, .slice none 0 0]) := HC.out.1
    have HP0 : Hid (V.cell? ⟨gp, 0, none⟩ = some (.string t)) := HC.out.2.1
    have HB : Hid (Below W.heap.size W V) := HC.out.2.2
    have HWV : Hid (Below w.heap.size w V) := below_step HW.out HB.out
    clear HC x5 f5 HX2 P2 HB2
    have q42 : (b.getD s2 0 == 42) = false := beq_eq_false_iff_ne.2 h42
    have q34 : (b.getD s2 0 == 34) = false := beq_eq_false_iff_ne.2 h34
    have q39 : (b.getD s2 0 == 39) = false := beq_eq_false_iff_ne.2 h39
    have q91 : (b.getD s2 0 == 91) = false := beq_eq_false_iff_ne.2 h91
    have q123 : (b.getD s2 0 == 123) = false := beq_eq_false_iff_ne.2 h123
    have HNO : Hid (b.getD s2 0 ≠ 42 ∧ b.getD s2 0 ≠ 34 ∧ b.getD s2 0 ≠ 39 ∧ b.getD s2 0 ≠ 91 ∧ b.getD s2 0 ≠ 123) := ⟨h42, h34, h39, h91, h123⟩
    have HSF := Lib.hid hsf
    clear h42 h34 h39 h91 h123 hsf
    have hlt : s2 < n := by have := start_len HSF.out; rw [List.length_drop, HE.out.len] at this; omega
    obtain ⟨aa, oo, hAe, hcell⟩ := (HE.out.rd.below HWV.out).addr (by rw [HE.out.len]; omega)
    have cs := hcell s2 (by rw [HE.out.len]; exact hlt)
    subst hAe
    have dlt : (s2 : Int) < (n : Int) := by omega
    clear hcell
    generalize b.getD s2 0 = xc at cs q42 q34 q39 q91 q123
    go_wp2_with fail
    refine (refStarts_any A3 (n - s2) (c - s2) (b.drop s2) fl V (by rw [List.length_drop, HE.out.len]) (by omega) (by omega) (HE.out.byte.drop s2) (HRD3.out.1 _ (HE.out.rd.below HWV.out)) true HSF.out).mono ?_
    rintro e w' ⟨rfl, rfl⟩
    obtain ⟨m, hm⟩ : ∃ m, lenF (b.drop s2) fl = m := ⟨_, rfl⟩
    have HM := Lib.hid hm
    have hml : s2 + m ≤ n := by
      have := len_le (b.drop s2) fl
      rw [hm, List.length_drop, HE.out.len] at this
      omega
    clear hm
    go_wp2_with fail
    refine (refLength_any A3 (n - s2) (c - s2) (b.drop s2) fl V (by rw [List.length_drop, HE.out.len]) (by omega) (by omega) (HE.out.byte.drop s2) (HRD3.out.1 _ (HE.out.rd.below HWV.out)) m HM.out).mono ?_
    rintro e w' ⟨rfl, rfl⟩
    obtain ⟨e1, he1⟩ : ∃ e1, s2 + m = e1 := ⟨_, rfl⟩
    obtain ⟨A4, hsl4, -, hrd4⟩ := slice_lh _ n c s2 e1 b HE.out.len HE.out.le HE.out.nil (by omega) (by omega)
    rw [show e1 - s2 = m by omega] at hsl4 hrd4
    have he1z : (s2 : Int) + (m : Int) = (e1 : Int) := by omega
    obtain ⟨v, hv⟩ : ∃ v, strOfNums ((b.drop s2).take m) = v := ⟨_, rfl⟩
    have hvb : byt v = (b.drop s2).take m := by rw [← hv]; exact byt_strOfNums _ ((HE.out.byte.drop s2).take m)
    have hvz : v.size ≤ 400000 := by rw [← byt_len, hvb, List.length_take, List.length_drop, HE.out.len]; omega
    have HCV : Hid (∀ U, Below w.heap.size w U → (convert 96 9 (.slice A4 m (c - s2))).run Try.prog U = .ok (.string v) U) := fun U hU => by
      rw [← hv]; exact run_string_rd U A4 m (c - s2) _ (by rw [List.length_take, List.length_drop, HE.out.len]; omega) (hrd4 _ (HE.out.rd.below hU))
    have HVB := Lib.hid hvb
    have HE1 := Lib.hid he1
    have hwr : IntKind.i64.wrap ((s2 : Int) + (m : Int)) = (e1 : Int) := by rw [IntWalk.i64_in _ (by omega)]; omega
    have hwr2 : IntKind.i64.wrap (e1 : Int) = (e1 : Int) := by rw [IntWalk.i64_in _ (by omega)]
    clear hv hvb he1 hrd4 cs hsl3
    have HX4 : Hid (Box ((((V.setCell ⟨gx, 0, none⟩ (.int .i64 1)).setCell ⟨gx, 1, none⟩ (.int .i64 1)).setCell ⟨gx, 4, none⟩ (.string v)).setCell ⟨gx, 6, none⟩ (.int .i64 (e1 : Int))) gx [.int .i64 1, .int .i64 1, .string ⟨#[]⟩, .string a, .string v, .int .i64 (st0 : Int), .int .i64 (e1 : Int), .int .i64 0, .int .i64 0, .slice none 0 0]) := ((((HX.out.set 0 (.int .i64 1)).set 1 (.int .i64 1)).set 4 (.string v)).set 6 (.int .i64 (e1 : Int)))
    have HB4 : Hid (Below W.heap.size W ((((V.setCell ⟨gx, 0, none⟩ (.int .i64 1)).setCell ⟨gx, 1, none⟩ (.int .i64 1)).setCell ⟨gx, 4, none⟩ (.string v)).setCell ⟨gx, 6, none⟩ (.int .i64 (e1 : Int)))) := ((((HB.out.setCell (p := ⟨gx, 0, none⟩) HGX.out (.int .i64 1)).setCell (p := ⟨gx, 1, none⟩) HGX.out (.int .i64 1)).setCell (p := ⟨gx, 4, none⟩) HGX.out (.string v)).setCell (p := ⟨gx, 6, none⟩) HGX.out (.int .i64 (e1 : Int)))
    have HP4 : Hid (World.cell? ((((V.setCell ⟨gx, 0, none⟩ (.int .i64 1)).setCell ⟨gx, 1, none⟩ (.int .i64 1)).setCell ⟨gx, 4, none⟩ (.string v)).setCell ⟨gx, 6, none⟩ (.int .i64 (e1 : Int))) ⟨gp, 0, none⟩ = some (.string t)) := by
      show World.cell? _ _ = _
      rw [World.cell?_setCell_other _ _ _ _ (by intro e; injection e with e; exact HNE.out e), World.cell?_setCell_other _ _ _ _ (by intro e; injection e with e; exact HNE.out e), World.cell?_setCell_other _ _ _ _ (by intro e; injection e with e; exact HNE.out e), World.cell?_setCell_other _ _ _ _ (by intro e; injection e with e; exact HNE.out e)]
      exact HP0.out
    have y0 := HX.out.cell 0 _ rfl
    have fy0 := HX.out.frozen 0
    have y1 := HX.out.cell 1 _ rfl
    have fy1 := HX.out.frozen 1
    have y4 := HX.out.cell 4 _ rfl
    have fy4 := HX.out.frozen 4
    have y6 := HX.out.cell 6 _ rfl
    have fy6 := HX.out.frozen 6
    have hgxw : w.heap.size ≤ gx := Nat.le_trans HW.out.size HGX.out
    have HK1 : Hid (Below w.heap.size w (V.setCell ⟨gx, 0, none⟩ (.int .i64 1))) := HWV.out.setCell (p := ⟨gx, 0, none⟩) hgxw _
    have HK2 : Hid (Below w.heap.size w ((V.setCell ⟨gx, 0, none⟩ (.int .i64 1)).setCell ⟨gx, 1, none⟩ (.int .i64 1))) := HK1.out.setCell (p := ⟨gx, 1, none⟩) hgxw _
    have HK3 : Hid (Below w.heap.size w (((V.setCell ⟨gx, 0, none⟩ (.int .i64 1)).setCell ⟨gx, 1, none⟩ (.int .i64 1)).setCell ⟨gx, 4, none⟩ (.string v))) := HK2.out.setCell (p := ⟨gx, 4, none⟩) hgxw _
    have HK4 : Hid (Below w.heap.size w ((((V.setCell ⟨gx, 0, none⟩ (.int .i64 1)).setCell ⟨gx, 1, none⟩ (.int .i64 1)).setCell ⟨gx, 4, none⟩ (.string v)).setCell ⟨gx, 6, none⟩ (.int .i64 (e1 : Int)))) := HK3.out.setCell (p := ⟨gx, 6, none⟩) hgxw _
    go_upto_region 38 with fail
    go_region_held3 (fun U => (convert 96 9 (.slice A4 m (c - s2))).run Try.prog U = .ok (.string v) U)
      (first | exact HCV.out _ HWV.out | exact HCV.out _ HK1.out | exact HCV.out _ HK2.out | exact HCV.out _ HK3.out | exact HCV.out _ HK4.out | exact HCV.out _ HWV.out.drew | exact HCV.out _ HK1.out.drew | exact HCV.out _ HK2.out.drew | exact HCV.out _ HK3.out.drew | exact HCV.out _ HK4.out.drew)
      (fail)
    have HX4d := Lib.hid (HX4.out.below (Below.refl _ _).drew)
    have HB4d := Lib.hid HB4.out.drew
    have HP4d : Hid (World.cell? ((((V.setCell ⟨gx, 0, none⟩ (.int .i64 1)).setCell ⟨gx, 1, none⟩ (.int .i64 1)).setCell ⟨gx, 4, none⟩ (.string v)).setCell ⟨gx, 6, none⟩ (.int .i64 (e1 : Int))).drew ⟨gp, 0, none⟩ = some (.string t)) := HP4.out
    clear HX4 HB4 HP4 HK1 HK2 HK3 HK4 HX HB HP0 he1z hwr hwr2
    clear y0 fy0 y1 fy1 y4 fy4 y6 fy6
    go_upto_region 39 with fail
    generalize ((((V.setCell ⟨gx, 0, none⟩ (.int .i64 1)).setCell ⟨gx, 1, none⟩ (.int .i64 1)).setCell ⟨gx, 4, none⟩ (.string v)).setCell ⟨gx, 6, none⟩ (.int .i64 (e1 : Int))).drew = V4 at *
    have HX4 := HX4d
    have HB4 := HB4d
    have HP4 := HP4d
    clear HX4d HB4d HP4d
    have x5 := HX4.out.cell 5 _ rfl
    have x7 := HX4.out.cell 7 _ rfl
    have f7 := HX4.out.frozen 7
    have x8 := HX4.out.cell 8 _ rfl
    have f8 := HX4.out.frozen 8
    have HX5 : Hid (Box ((V4.setCell ⟨gx, 7, none⟩ (.int .i64 (st0 : Int))).setCell ⟨gx, 8, none⟩ (.int .i64 (st0 : Int))) gx [.int .i64 1, .int .i64 1, .string ⟨#[]⟩, .string a, .string v, .int .i64 (st0 : Int), .int .i64 (e1 : Int), .int .i64 (st0 : Int), .int .i64 (st0 : Int), .slice none 0 0]) := (HX4.out.set 7 _).set 8 _
    have HB5 : Hid (Below W.heap.size W ((V4.setCell ⟨gx, 7, none⟩ (.int .i64 (st0 : Int))).setCell ⟨gx, 8, none⟩ (.int .i64 (st0 : Int)))) := (HB4.out.setCell (p := ⟨gx, 7, none⟩) HGX.out _).setCell (p := ⟨gx, 8, none⟩) HGX.out _
    have HP5 : Hid (((V4.setCell ⟨gx, 7, none⟩ (.int .i64 (st0 : Int))).setCell ⟨gx, 8, none⟩ (.int .i64 (st0 : Int))).cell? ⟨gp, 0, none⟩ = some (.string t)) := by
      show World.cell? _ _ = _
      rw [World.cell?_setCell_other _ _ _ _ (by intro e; injection e with e; exact HNE.out e), World.cell?_setCell_other _ _ _ _ (by intro e; injection e with e; exact HNE.out e)]
      exact HP4.out
    go_upto_region 40 with fail
    generalize (V4.setCell ⟨gx, 7, none⟩ (.int .i64 (st0 : Int))).setCell ⟨gx, 8, none⟩ (.int .i64 (st0 : Int)) = V5 at *
    clear x5 x7 f7 x8 f8 HX4 HB4 HP4
    obtain ⟨r, hrr⟩ : ∃ r, strOfNums (inTag 1 1 (byt t) (byt v)) = r := ⟨_, rfl⟩
    have HRR := Lib.hid hrr
    have x0 := HX5.out.cell 0 _ rfl
    have x1 := HX5.out.cell 1 _ rfl
    have x4 := HX5.out.cell 4 _ rfl
    have p5 := HP5.out
    clear hrr
    go_wp2_with fail
    refine (rtag_at (w := V5) (W := V5) (Below.refl _ _) 1 1 t v (by first | decide | omega) r HRR.out).mono ?_
    rintro e V6 ⟨rfl, hb6⟩
    have HX6 := Lib.hid (HX5.out.below hb6)
    have x2 := HX6.out.cell 2 _ rfl
    have f2 := HX6.out.frozen 2
    have HX7 := Lib.hid (HX6.out.set 2 (.string r))
    have HB7 : Hid (Below W.heap.size W (V6.setCell ⟨gx, 2, none⟩ (.string r))) := (below_step HB5.out hb6).setCell (p := ⟨gx, 2, none⟩) HGX.out _
    clear x0 x1 x4 p5 hb6 HX5 HB5 HP5
    go_upto_region 41 with fail
    generalize V6.setCell ⟨gx, 2, none⟩ (.string r) = V7 at *
    clear x2 f2 HX6
    have HX8 : Hid (Box V7.drew gx [.int .i64 1, .int .i64 1, .string r, .string a, .string v, .int .i64 (st0 : Int), .int .i64 (e1 : Int), .int .i64 (st0 : Int), .int .i64 (st0 : Int), .slice none 0 0]) := HX7.out.below (Below.refl _ _).drew
    have HB8 : Hid (Below W.heap.size W V7.drew) := HB7.out.drew
    clear HX7 HB7
    refine gen_act fun a0 hA => ?_
    have hsz : a0.tmps.size = 208 := by rw [hA]; rfl
    have e15 : a0.eval (.tmp 15) = .pointer (some ⟨gx, 0, none⟩) := by rw [hA]; rfl
    refine region_gate (fun V => Box V gx [.int .i64 1, .int .i64 1, .string r, .string a, .string v, .int .i64 (st0 : Int), .int .i64 (e1 : Int), .int .i64 (st0 : Int), .int .i64 (st0 : Int), .slice none 0 0]) 5 (by kernel_rfl) ?_
    change wpGate _ _ _ _ _ _ 7 _ _ _
    generalize V7.drew = V8 at *
    refine gate_take0 (i := 2) (v := .pointer (some ⟨gx, 6, none⟩)) rfl (by rfl) (by kernel_rfl) (by kernel_rfl) (by kernel_rfl) (fun _ _ _ h => h) rfl (fun V => field6_exec _ (.tmp 15) rfl _ V gx e15) HX8.out ?_
    refine gate_take (i := 0) (v := .agg #[.int .i64 1, .int .i64 1, .string r, .string a, .string v, .int .i64 (st0 : Int), .int .i64 (e1 : Int), .int .i64 (st0 : Int), .int .i64 (st0 : Int), .slice none 0 0]) rfl (by rfl) (by kernel_rfl) (by kernel_rfl) (by kernel_rfl) (by kernel_rfl) (by kernel_rfl) (fun _ _ _ h => h) rfl (fun V hV => load10 _ (.tmp 15) rfl _ V gx _ _ _ _ _ _ _ _ _ _ (by simp [evp_ne, e15]) hV) HX8.out ?_
    refine gate_take (i := 3) (v := .int .i64 (e1 : Int)) rfl (by rfl) (by kernel_rfl) (by kernel_rfl) (by kernel_rfl) (by kernel_rfl) (by kernel_rfl) (fun _ _ _ h => h) rfl (fun V hV => by
      have c6 := hV.cell 6 _ rfl
      have e206 : ((a0.put (some 206) (.pointer (some ⟨gx, 6, none⟩))).put (some 204) (.agg #[.int .i64 1, .int .i64 1, .string r, .string a, .string v, .int .i64 (st0 : Int), .int .i64 (e1 : Int), .int .i64 (st0 : Int), .int .i64 (st0 : Int), .slice none 0 0])).eval (.tmp 206) = .pointer (some ⟨gx, 6, none⟩) := by simp [evp_same, evp_ne, szp, hsz]
      exact loadI_exec _ (.tmp 206) rfl _ V _ _ e206 c6) HX8.out ?_
    obtain ⟨V9, hV9⟩ : ∃ z, V8.alloc (.cells #[.int .i64 1, .int .i64 1, .string r, .string a, .string v, .int .i64 (st0 : Int), .int .i64 (e1 : Int), .int .i64 (st0 : Int), .int .i64 (st0 : Int), .slice none 0 0] 41) = z := ⟨_, rfl⟩
    have hb9 : Below V8.heap.size V8 V9 := by rw [← hV9]; exact (Below.refl _ _).alloc (Nat.le_refl _) _
    have HX9 := Lib.hid (HX8.out.below hb9)
    refine gate_one (i := 1) (by kernel_rfl) ?_
    refine wpOp_value (w' := V9) (v := .slice (some ⟨V8.heap.size, 0, none⟩) 1 1) rfl rfl (by rw [← hV9]; exact build1_exec _ (.tmp 204) rfl _ V8 _ _ _ _ _ _ _ _ _ _ (by simp [evp_same, evp_ne, szp, hsz])) ⟨fun _ => HX9.out, ?_⟩
    refine gate_one (i := 4) (by kernel_rfl) ?_
    refine wpOp_value (w' := V9) (v := .slice (some ⟨V8.heap.size, 0, none⟩) 1 1) rfl rfl (by simp [execOp, kput_none, evp_same, evp_ne, szp, hsz]) ⟨fun _ => HX9.out, ?_⟩
    refine gate_one (i := 5) (by kernel_rfl) ?_
    refine wpOp_value (w' := V9) (v := .int .i64 (e1 : Int)) rfl rfl (by simp [execOp, kput_none, evp_same, evp_ne, szp, hsz]) ⟨fun _ => HX9.out, ?_⟩
    refine gate_one (i := 6) (by kernel_rfl) ?_
    refine wpOp_value (w' := V9) (v := .int .i64 0) rfl rfl (by simp [execOp]; rfl) ⟨fun _ => HX9.out, ?_⟩
    refine gate_done (by kernel_rfl) ?_ _
    subst hA
    clear hsz e15
    go_wp2_with fail
    simp only [Act.put, List.setIfInBounds_toArray, List.set_cons_zero, List.set_cons_succ]
    have er : strOfNums (inTag 1 1 tg (byt v)) = r := by have := HRR.out; rw [HTA.out.1] at this; exact this
    have ea : strOfNums an = a := by rw [← HTA.out.2, strOfNums_byt]
    have hr : inNodeG child deep b fl s 0 = .ok ([⟨1, 1, inTag 1 1 tg (byt v), an, byt v, st0, e1, st0, st0, []⟩], e1) := by
      unfold inNodeG
      rw [HP.out]
      dsimp only
      rw [if_pos rfl, H2.out.1]
      have hcont : inCont child deep b fl s2 (0 + 1) = .ok ({ Nd.nil with kind := 1, style := 1, value := byt v }, [], e1) := by
        unfold inCont
        rw [if_neg HNO.out.1, if_neg HNO.out.2.2.2.1, if_neg HNO.out.2.2.2.2]
        unfold inLeaf
        rw [if_neg HNO.out.2.1, if_neg HNO.out.2.2.1, if_pos HSF.out, HM.out]
        simp only []
        rw [HE1.out, HVB.out]
      rw [hcont]
      simp only [inDone]
      rw [if_neg (by rintro ⟨h, _⟩; cases h), if_neg (by decide)]
      have e := HST.out
      rw [e]
      simp [inFin, Nd.nil]
    have hone := Nds.one (B := W.heap.size) V8 HB8.out.size ⟨1, 1, inTag 1 1 tg (byt v), an, byt v, st0, e1, st0, st0, []⟩ rfl
    have hcc : (ndC ((⟨1, 1, inTag 1 1 tg (byt v), an, byt v, st0, e1, st0, st0, []⟩ : Nd), .slice none 0 0)).toArray = #[.int .i64 1, .int .i64 1, .string r, .string a, .string v, .int .i64 (st0 : Int), .int .i64 (e1 : Int), .int .i64 (st0 : Int), .int .i64 (st0 : Int), .slice none 0 0] := by
      simp only [ndC, er, ea, strOfNums_byt]
    rw [hcc, hV9] at hone
    refine bodyPost_ret (v := .tuple #[.slice (some ⟨V8.heap.size, 0, none⟩) 1 1, .int .i64 (e1 : Int), .int .i64 0]) (by simp [results, Try.results75, go_sem]) rfl ?_
    rw [hr]
    exact ⟨_, _, rfl, hone, rfl, below_step HB8.out hb9⟩
end
section
variable {w W : World} {A : Option Addr} {n c s k s2 : Nat} {b tg an : List Int} {fl : Bool} {d : Int} {child : Nat → Nat → InR} {deep : Bool}
set_option maxHeartbeats 8000000 in
theorem rnodeNu_at (E : REnv w A n c b) (hw : Below w.heap.size w W) (hs : s ≤ n) (hp : Pr.takeP (b.drop s) = (tg, an, k, true)) (h2 : inBlk b (s + k) = s2) (h42 : b.getD s2 0 ≠ 42) (h34 : b.getD s2 0 ≠ 34) (h39 : b.getD s2 0 ≠ 39) (h91 : b.getD s2 0 ≠ 91) (h123 : b.getD s2 0 ≠ 123) (hsf : startF (b.drop s2) fl = false) (hlt : s2 < n) :
    Calls Try.prog 75 #[.slice A n c, .int .i64 (s : Int), .bool fl, .int .i64 d] W (RNodeP W (inNodeG child deep b fl s 0)) := by
  have hn := E.small
  have hnc := E.le
  have hcm := E.cap
  have HE := Lib.hid E
  have HW := Lib.hid hw
  have hkl : s + k ≤ n := by
    have := takeP_len (b.drop s)
    rw [hp, List.length_drop, E.len] at this
    simp only at this
    omega
  have hk1 : (Pr.takeP (b.drop s)).2.2.1 = k := by rw [hp]
  have hk2 : (Pr.takeP (b.drop s)).2.2.2 = true := by rw [hp]
  have hk3 : (Pr.takeP (b.drop s)).1 = tg := by rw [hp]
  have hk4 : (Pr.takeP (b.drop s)).2.1 = an := by rw [hp]
  obtain ⟨As, hsls, hAs, hrds⟩ := slice_l _ n c s b E.len E.le E.nil hs
  have HRS := Lib.hid (And.intro hrds hAs)
  obtain ⟨s1, hs1⟩ : ∃ s1, s + k = s1 := ⟨_, rfl⟩
  have hs1z : (s : Int) + (k : Int) = (s1 : Int) := by omega
  have hs1n : s1 ≤ n := by omega
  have h2' := h2
  rw [hs1] at h2'
  obtain ⟨A2, hsl2, -, hrd2⟩ := slice_l _ n c s1 b E.len E.le E.nil hs1n
  obtain ⟨kk, hkk⟩ : ∃ z, blkF (b.drop s1) = z := ⟨_, rfl⟩
  have hsum : (s1 : Int) + (kk : Int) = (s2 : Int) := by rw [← h2', ← hkk]; unfold inBlk; omega
  have hs2n : s2 ≤ n := by rw [← h2', ← E.len]; exact blk_le (by rw [E.len]; exact hs1n)
  have hs12 : s1 ≤ s2 := by rw [← h2']; exact blk_ge b _
  obtain ⟨A3, hsl3, hA3, hrd3⟩ := slice_l _ n c s2 b E.len E.le E.nil hs2n
  obtain ⟨st0, hst0⟩ : ∃ z, (if k = 0 then s2 else s) = z := ⟨_, rfl⟩
  have HST := Lib.hid hst0
  have HRD2 := Lib.hid hrd2
  have HRD3 := Lib.hid (And.intro hrd3 hA3)
  have HKK := Lib.hid hkk
  have HP := Lib.hid hp
  have H2 := Lib.hid (And.intro h2 hs1)
  have HK := Lib.hid (And.intro hk1 (And.intro hk2 (And.intro hk3 hk4)))
  clear E hw hp h2 h2' hs1 hkk hrds hAs hrd2 hrd3 hA3 hst0 hk1 hk2 hk3 hk4
  go_enter Try.func75, Try.ntmps75
  go_wp2_with fail
  refine (Pr.refTake_any As (n - s) (c - s) (b.drop s) W (by rw [List.length_drop, HE.out.len]) (by omega) (by omega) HRS.out.2 (HE.out.byte.drop s) (HRS.out.1 _ (HE.out.rd.below HW.out))).mono ?_
  rintro e W0 ⟨t, a, ht, ha, rfl, hb0⟩
  rw [HK.out.2.2.1] at ht
  rw [HK.out.2.2.2] at ha
  rw [HK.out.1, HK.out.2.1]
  have HTA := Lib.hid (And.intro ht ha)
  have HB0 := Lib.hid hb0
  clear ht ha hb0 hsls HRS
  go_upto_region 2 with fail
  obtain ⟨W1, hW1⟩ : ∃ W1, W0.alloc (.cells #[.string t, .string a] 113) = W1 := ⟨_, rfl⟩
  obtain ⟨gp, hgp⟩ : ∃ g, W0.heap.size = g := ⟨_, rfl⟩
  have hb1 : Below W0.heap.size W0 W1 := by rw [← hW1]; exact (Below.refl _ _).alloc (Nat.le_refl _) _
  have p0 : W1.cell? ⟨gp, 0, none⟩ = some (.string t) := by rw [← hW1, ← hgp, World.cell?_alloc_mark]; rfl
  have p1 : W1.cell? ⟨gp, 1, none⟩ = some (.string a) := by rw [← hW1, ← hgp, World.cell?_alloc_mark]; rfl
  have hs1w : W1.heap.size = gp + 1 := by rw [← hW1, ← hgp]; simp
  rw [hW1, hgp]
  have HB1 : Hid (Below W.heap.size W W1) := below_step HB0.out hb1
  have HGP : Hid (W.heap.size ≤ gp) := by show W.heap.size ≤ gp; rw [← hgp]; exact HB0.out.size
  clear hW1 hgp hb1 HB0
  have P1 := Lib.hid p0
  go_wp2_with fail
  refine (refBlanks_any A2 (n - s1) (c - s1) (b.drop s1) W1 (by rw [List.length_drop, HE.out.len]) (by omega) (by omega) (HRD2.out _ (HE.out.rd.below (below_step HW.out HB1.out)))).mono ?_
  rintro e w' ⟨rfl, rfl⟩
  rw [HKK.out]
  clear hsl2 HRD2
  go_upto_region 7 with fail
  obtain ⟨W2, hW2⟩ : ∃ W2, W1.alloc (.cells #[.int .i64 0, .int .i64 0, .string ⟨#[]⟩, .string a, .string ⟨#[]⟩, .int .i64 (s : Int), .int .i64 0, .int .i64 0, .int .i64 0, .slice none 0 0] 41) = W2 := ⟨_, rfl⟩
  obtain ⟨gx, hgx⟩ : ∃ g, gp + 1 = g := ⟨_, rfl⟩
  have bx : Box W2 gx [.int .i64 0, .int .i64 0, .string ⟨#[]⟩, .string a, .string ⟨#[]⟩, .int .i64 (s : Int), .int .i64 0, .int .i64 0, .int .i64 0, .slice none 0 0] := by rw [← hW2, ← hgx, ← hs1w]; exact Box.new W1 _
  have hb2 : Below W1.heap.size W1 W2 := by rw [← hW2]; exact (Below.refl _ _).alloc (Nat.le_refl _) _
  rw [hgx, hW2]
  have p2 : W2.cell? ⟨gp, 0, none⟩ = some (.string t) := cell_keep hb2 p0
  have hne : gx ≠ gp := by omega
  have HNE := Lib.hid hne
  have HB2 : Hid (Below W.heap.size W W2) := below_step HB1.out hb2
  have HX2 := Lib.hid bx
  have HGX : Hid (W.heap.size ≤ gx) := by show W.heap.size ≤ gx; have := HGP.out; omega
  clear hW2 hgx hb2 p0 p1 hs1w bx hne HB1 HGP P1
  have P2 := Lib.hid p2
  clear p2
  have x5 := HX2.out.cell 5 _ rfl
  have f5 := HX2.out.frozen 5
  go_upto_if 48 with fail
  go_cut [14] from 49 to 50 (fun v U => v = .int .i64 (s2 : Int) ∧ Hid (Box U gx [.int .i64 0, .int .i64 0, .string ⟨#[]⟩, .string a, .string ⟨#[]⟩, .int .i64 (st0 : Int), .int .i64 0, .int .i64 0, .int .i64 0, .slice none 0 0] ∧ U.cell? ⟨gp, 0, none⟩ = some (.string t) ∧ Below W.heap.size W U))
  case first =>
    by_cases hk0 : k = 0
    · have hst : s2 = st0 := by have := HST.out; rw [if_pos hk0] at this; exact this
      have HST1 := Lib.hid hst
      clear hst
      subst hk0
      simp only [show ((0 : Nat) : Int) = 0 from rfl]
      go_wp2_with fail
      go_meet
      refine ⟨rfl, ?_, ?_, ?_⟩
      · rw [← HST1.out]; exact HX2.out.set 5 (.int .i64 (s2 : Int))
      · rw [World.cell?_setCell_other _ _ _ _ (by intro e; injection e with e; exact HNE.out e)]; exact P2.out
      · exact HB2.out.setCell (p := ⟨gx, 5, none⟩) HGX.out _
    · have hst : s = st0 := by have := HST.out; rw [if_neg hk0] at this; exact this
      have HST1 := Lib.hid hst
      have hk0' : ¬ (k : Int) = 0 := by omega
      have hk0'' : ((k : Int) == 0) = false := beq_eq_false_iff_ne.2 hk0'
      clear hst
      go_wp2_with fail
      go_meet
      refine ⟨rfl, ?_, P2.out, HB2.out⟩
      rw [← HST1.out]; exact HX2.out
  case rest =>
    obtain ⟨rfl, HC⟩ := hcut
    obtain ⟨V, hV⟩ : ∃ z, z = wc := ⟨_, rfl⟩
    subst hV
    have HX : Hid (Box V gx [.int .i64 0, .int .i64 0, .string ⟨#[]⟩, .string a, .string ⟨#[]⟩, .int .i64 (st0 : Int), .int .i64 0, .int .i64 0, .int .i64 0, .slice none 0 0]) := HC.out.1
    have HP0 : Hid (V.cell? ⟨gp, 0, none⟩ = some (.string t)) := HC.out.2.1
    have HB : Hid (Below W.heap.size W V) := HC.out.2.2
    have HWV : Hid (Below w.heap.size w V) := below_step HW.out HB.out
    clear HC x5 f5 HX2 P2 HB2
    have q42 : (b.getD s2 0 == 42) = false := beq_eq_false_iff_ne.2 h42
    have q34 : (b.getD s2 0 == 34) = false := beq_eq_false_iff_ne.2 h34
    have q39 : (b.getD s2 0 == 39) = false := beq_eq_false_iff_ne.2 h39
    have q91 : (b.getD s2 0 == 91) = false := beq_eq_false_iff_ne.2 h91
    have q123 : (b.getD s2 0 == 123) = false := beq_eq_false_iff_ne.2 h123
    have HNO : Hid (b.getD s2 0 ≠ 42 ∧ b.getD s2 0 ≠ 34 ∧ b.getD s2 0 ≠ 39 ∧ b.getD s2 0 ≠ 91 ∧ b.getD s2 0 ≠ 123) := ⟨h42, h34, h39, h91, h123⟩
    have HSF := Lib.hid hsf
    clear h42 h34 h39 h91 h123 hsf
    obtain ⟨aa, oo, hAe, hcell⟩ := (HE.out.rd.below HWV.out).addr (by rw [HE.out.len]; omega)
    have cs := hcell s2 (by rw [HE.out.len]; exact hlt)
    subst hAe
    have dlt : (s2 : Int) < (n : Int) := by omega
    clear hcell
    generalize b.getD s2 0 = xc at cs q42 q34 q39 q91 q123
    go_wp2_with fail
    refine (refStarts_any A3 (n - s2) (c - s2) (b.drop s2) fl V (by rw [List.length_drop, HE.out.len]) (by omega) (by omega) (HE.out.byte.drop s2) (HRD3.out.1 _ (HE.out.rd.below HWV.out)) false HSF.out).mono ?_
    rintro e w' ⟨rfl, rfl⟩
    clear cs hsl3
    have HX4 : Hid (Box (((V.setCell ⟨gx, 0, none⟩ (.int .i64 0)).setCell ⟨gx, 5, none⟩ (.int .i64 (s : Int))).setCell ⟨gx, 6, none⟩ (.int .i64 (s1 : Int))) gx [.int .i64 0, .int .i64 0, .string ⟨#[]⟩, .string a, .string ⟨#[]⟩, .int .i64 (s : Int), .int .i64 (s1 : Int), .int .i64 0, .int .i64 0, .slice none 0 0]) := (((HX.out.set 0 (.int .i64 0)).set 5 (.int .i64 (s : Int))).set 6 (.int .i64 (s1 : Int)))
    have HB4 : Hid (Below W.heap.size W (((V.setCell ⟨gx, 0, none⟩ (.int .i64 0)).setCell ⟨gx, 5, none⟩ (.int .i64 (s : Int))).setCell ⟨gx, 6, none⟩ (.int .i64 (s1 : Int)))) := (((HB.out.setCell (p := ⟨gx, 0, none⟩) HGX.out (.int .i64 0)).setCell (p := ⟨gx, 5, none⟩) HGX.out (.int .i64 (s : Int))).setCell (p := ⟨gx, 6, none⟩) HGX.out (.int .i64 (s1 : Int)))
    have HP4 : Hid (World.cell? (((V.setCell ⟨gx, 0, none⟩ (.int .i64 0)).setCell ⟨gx, 5, none⟩ (.int .i64 (s : Int))).setCell ⟨gx, 6, none⟩ (.int .i64 (s1 : Int))) ⟨gp, 0, none⟩ = some (.string t)) := by
      show World.cell? _ _ = _
      rw [World.cell?_setCell_other _ _ _ _ (by intro e; injection e with e; exact HNE.out e), World.cell?_setCell_other _ _ _ _ (by intro e; injection e with e; exact HNE.out e), World.cell?_setCell_other _ _ _ _ (by intro e; injection e with e; exact HNE.out e)]
      exact HP0.out
    have y0 := HX.out.cell 0 _ rfl
    have fy0 := HX.out.frozen 0
    have y5 := HX.out.cell 5 _ rfl
    have fy5 := HX.out.frozen 5
    have y6 := HX.out.cell 6 _ rfl
    have fy6 := HX.out.frozen 6
    go_upto_region 39 with fail
    generalize (((V.setCell ⟨gx, 0, none⟩ (.int .i64 0)).setCell ⟨gx, 5, none⟩ (.int .i64 (s : Int))).setCell ⟨gx, 6, none⟩ (.int .i64 (s1 : Int))) = V4 at *
    clear HX HB HP0 hs1z
    clear y0 fy0 y5 fy5 y6 fy6
    have x5 := HX4.out.cell 5 _ rfl
    have x7 := HX4.out.cell 7 _ rfl
    have f7 := HX4.out.frozen 7
    have x8 := HX4.out.cell 8 _ rfl
    have f8 := HX4.out.frozen 8
    have HX5 : Hid (Box ((V4.setCell ⟨gx, 7, none⟩ (.int .i64 (s : Int))).setCell ⟨gx, 8, none⟩ (.int .i64 (s : Int))) gx [.int .i64 0, .int .i64 0, .string ⟨#[]⟩, .string a, .string ⟨#[]⟩, .int .i64 (s : Int), .int .i64 (s1 : Int), .int .i64 (s : Int), .int .i64 (s : Int), .slice none 0 0]) := (HX4.out.set 7 _).set 8 _
    have HB5 : Hid (Below W.heap.size W ((V4.setCell ⟨gx, 7, none⟩ (.int .i64 (s : Int))).setCell ⟨gx, 8, none⟩ (.int .i64 (s : Int)))) := (HB4.out.setCell (p := ⟨gx, 7, none⟩) HGX.out _).setCell (p := ⟨gx, 8, none⟩) HGX.out _
    have HP5 : Hid (((V4.setCell ⟨gx, 7, none⟩ (.int .i64 (s : Int))).setCell ⟨gx, 8, none⟩ (.int .i64 (s : Int))).cell? ⟨gp, 0, none⟩ = some (.string t)) := by
      show World.cell? _ _ = _
      rw [World.cell?_setCell_other _ _ _ _ (by intro e; injection e with e; exact HNE.out e), World.cell?_setCell_other _ _ _ _ (by intro e; injection e with e; exact HNE.out e)]
      exact HP4.out
    go_upto_region 40 with fail
    generalize (V4.setCell ⟨gx, 7, none⟩ (.int .i64 (s : Int))).setCell ⟨gx, 8, none⟩ (.int .i64 (s : Int)) = V5 at *
    clear x5 x7 f7 x8 f8 HX4 HB4 HP4
    obtain ⟨r, hrr⟩ : ∃ r, strOfNums (inTag 0 0 (byt t) (byt ⟨#[]⟩)) = r := ⟨_, rfl⟩
    have HRR := Lib.hid hrr
    have x0 := HX5.out.cell 0 _ rfl
    have x1 := HX5.out.cell 1 _ rfl
    have x4 := HX5.out.cell 4 _ rfl
    have p5 := HP5.out
    clear hrr
    go_wp2_with fail
    refine (rtag_at (w := V5) (W := V5) (Below.refl _ _) 0 0 t ⟨#[]⟩ (by first | decide | omega) r HRR.out).mono ?_
    rintro e V6 ⟨rfl, hb6⟩
    have HX6 := Lib.hid (HX5.out.below hb6)
    have x2 := HX6.out.cell 2 _ rfl
    have f2 := HX6.out.frozen 2
    have HX7 := Lib.hid (HX6.out.set 2 (.string r))
    have HB7 : Hid (Below W.heap.size W (V6.setCell ⟨gx, 2, none⟩ (.string r))) := (below_step HB5.out hb6).setCell (p := ⟨gx, 2, none⟩) HGX.out _
    clear x0 x1 x4 p5 hb6 HX5 HB5 HP5
    go_upto_region 41 with fail
    generalize V6.setCell ⟨gx, 2, none⟩ (.string r) = V7 at *
    clear x2 f2 HX6
    have HX8 : Hid (Box V7.drew gx [.int .i64 0, .int .i64 0, .string r, .string a, .string ⟨#[]⟩, .int .i64 (s : Int), .int .i64 (s1 : Int), .int .i64 (s : Int), .int .i64 (s : Int), .slice none 0 0]) := HX7.out.below (Below.refl _ _).drew
    have HB8 : Hid (Below W.heap.size W V7.drew) := HB7.out.drew
    clear HX7 HB7
    refine gen_act fun a0 hA => ?_
    have hsz : a0.tmps.size = 208 := by rw [hA]; rfl
    have e15 : a0.eval (.tmp 15) = .pointer (some ⟨gx, 0, none⟩) := by rw [hA]; rfl
    refine region_gate (fun V => Box V gx [.int .i64 0, .int .i64 0, .string r, .string a, .string ⟨#[]⟩, .int .i64 (s : Int), .int .i64 (s1 : Int), .int .i64 (s : Int), .int .i64 (s : Int), .slice none 0 0]) 5 (by kernel_rfl) ?_
    change wpGate _ _ _ _ _ _ 7 _ _ _
    generalize V7.drew = V8 at *
    refine gate_take0 (i := 2) (v := .pointer (some ⟨gx, 6, none⟩)) rfl (by rfl) (by kernel_rfl) (by kernel_rfl) (by kernel_rfl) (fun _ _ _ h => h) rfl (fun V => field6_exec _ (.tmp 15) rfl _ V gx e15) HX8.out ?_
    refine gate_take (i := 0) (v := .agg #[.int .i64 0, .int .i64 0, .string r, .string a, .string ⟨#[]⟩, .int .i64 (s : Int), .int .i64 (s1 : Int), .int .i64 (s : Int), .int .i64 (s : Int), .slice none 0 0]) rfl (by rfl) (by kernel_rfl) (by kernel_rfl) (by kernel_rfl) (by kernel_rfl) (by kernel_rfl) (fun _ _ _ h => h) rfl (fun V hV => load10 _ (.tmp 15) rfl _ V gx _ _ _ _ _ _ _ _ _ _ (by simp [evp_ne, e15]) hV) HX8.out ?_
    refine gate_take (i := 3) (v := .int .i64 (s1 : Int)) rfl (by rfl) (by kernel_rfl) (by kernel_rfl) (by kernel_rfl) (by kernel_rfl) (by kernel_rfl) (fun _ _ _ h => h) rfl (fun V hV => by
      have c6 := hV.cell 6 _ rfl
      have e206 : ((a0.put (some 206) (.pointer (some ⟨gx, 6, none⟩))).put (some 204) (.agg #[.int .i64 0, .int .i64 0, .string r, .string a, .string ⟨#[]⟩, .int .i64 (s : Int), .int .i64 (s1 : Int), .int .i64 (s : Int), .int .i64 (s : Int), .slice none 0 0])).eval (.tmp 206) = .pointer (some ⟨gx, 6, none⟩) := by simp [evp_same, evp_ne, szp, hsz]
      exact loadI_exec _ (.tmp 206) rfl _ V _ _ e206 c6) HX8.out ?_
    obtain ⟨V9, hV9⟩ : ∃ z, V8.alloc (.cells #[.int .i64 0, .int .i64 0, .string r, .string a, .string ⟨#[]⟩, .int .i64 (s : Int), .int .i64 (s1 : Int), .int .i64 (s : Int), .int .i64 (s : Int), .slice none 0 0] 41) = z := ⟨_, rfl⟩
    have hb9 : Below V8.heap.size V8 V9 := by rw [← hV9]; exact (Below.refl _ _).alloc (Nat.le_refl _) _
    have HX9 := Lib.hid (HX8.out.below hb9)
    refine gate_one (i := 1) (by kernel_rfl) ?_
    refine wpOp_value (w' := V9) (v := .slice (some ⟨V8.heap.size, 0, none⟩) 1 1) rfl rfl (by rw [← hV9]; exact build1_exec _ (.tmp 204) rfl _ V8 _ _ _ _ _ _ _ _ _ _ (by simp [evp_same, evp_ne, szp, hsz])) ⟨fun _ => HX9.out, ?_⟩
    refine gate_one (i := 4) (by kernel_rfl) ?_
    refine wpOp_value (w' := V9) (v := .slice (some ⟨V8.heap.size, 0, none⟩) 1 1) rfl rfl (by simp [execOp, kput_none, evp_same, evp_ne, szp, hsz]) ⟨fun _ => HX9.out, ?_⟩
    refine gate_one (i := 5) (by kernel_rfl) ?_
    refine wpOp_value (w' := V9) (v := .int .i64 (s1 : Int)) rfl rfl (by simp [execOp, kput_none, evp_same, evp_ne, szp, hsz]) ⟨fun _ => HX9.out, ?_⟩
    refine gate_one (i := 6) (by kernel_rfl) ?_
    refine wpOp_value (w' := V9) (v := .int .i64 0) rfl rfl (by simp [execOp]; rfl) ⟨fun _ => HX9.out, ?_⟩
    refine gate_done (by kernel_rfl) ?_ _
    subst hA
    clear hsz e15
    go_wp2_with fail
    simp only [Act.put, List.setIfInBounds_toArray, List.set_cons_zero, List.set_cons_succ]
    have er : strOfNums (inTag 0 0 tg (byt ⟨#[]⟩)) = r := by have := HRR.out; rw [HTA.out.1] at this; exact this
    have ea : strOfNums an = a := by rw [← HTA.out.2, strOfNums_byt]
    have hr : inNodeG child deep b fl s 0 = .ok ([⟨0, 0, inTag 0 0 tg (byt ⟨#[]⟩), an, byt ⟨#[]⟩, s, s1, s, s, []⟩], s1) := by
      unfold inNodeG
      rw [HP.out]
      dsimp only
      rw [if_pos rfl, H2.out.1]
      have hcont : inCont child deep b fl s2 (0 + 1) = .ok ({ Nd.nil with kind := 0, style := 0, value := [] }, [], s2) := by
        unfold inCont
        rw [if_neg HNO.out.1, if_neg HNO.out.2.2.2.1, if_neg HNO.out.2.2.2.2]
        unfold inLeaf
        rw [if_neg HNO.out.2.1, if_neg HNO.out.2.2.1, if_neg (by rw [HSF.out]; decide)]
        rfl
      rw [hcont]
      simp only [inDone]
      rw [if_neg (by rintro ⟨h, _⟩; cases h), if_pos (by trivial), H2.out.2]
      rfl
    have hone := Nds.one (B := W.heap.size) V8 HB8.out.size ⟨0, 0, inTag 0 0 tg (byt ⟨#[]⟩), an, byt ⟨#[]⟩, s, s1, s, s, []⟩ rfl
    have hcc : (ndC ((⟨0, 0, inTag 0 0 tg (byt ⟨#[]⟩), an, byt ⟨#[]⟩, s, s1, s, s, []⟩ : Nd), .slice none 0 0)).toArray = #[.int .i64 0, .int .i64 0, .string r, .string a, .string ⟨#[]⟩, .int .i64 (s : Int), .int .i64 (s1 : Int), .int .i64 (s : Int), .int .i64 (s : Int), .slice none 0 0] := by
      simp only [ndC, er, ea, strOfNums_byt]
    rw [hcc, hV9] at hone
    refine bodyPost_ret (v := .tuple #[.slice (some ⟨V8.heap.size, 0, none⟩) 1 1, .int .i64 (s1 : Int), .int .i64 0]) (by simp [results, Try.results75, go_sem]) rfl ?_
    rw [hr]
    exact ⟨_, _, rfl, hone, rfl, below_step HB8.out hb9⟩
end
section
variable {w W : World} {A : Option Addr} {n c s k s2 : Nat} {b tg an : List Int} {fl : Bool} {d : Int} {child : Nat → Nat → InR} {deep : Bool}
set_option maxHeartbeats 8000000 in
theorem rnodeNv_at (E : REnv w A n c b) (hw : Below w.heap.size w W) (hs : s ≤ n) (hp : Pr.takeP (b.drop s) = (tg, an, k, true)) (h2 : inBlk b (s + k) = s2) (h42 : b.getD s2 0 ≠ 42) (h34 : b.getD s2 0 ≠ 34) (h39 : b.getD s2 0 ≠ 39) (h91 : b.getD s2 0 ≠ 91) (h123 : b.getD s2 0 ≠ 123) (hsf : startF (b.drop s2) fl = false) (hge : n ≤ s2) :
    Calls Try.prog 75 #[.slice A n c, .int .i64 (s : Int), .bool fl, .int .i64 d] W (RNodeP W (inNodeG child deep b fl s 0)) := by
  have HGE := Lib.hid hge
  clear hge
  have hn := E.small
  have hnc := E.le
  have hcm := E.cap
  have HE := Lib.hid E
  have HW := Lib.hid hw
  have hkl : s + k ≤ n := by
    have := takeP_len (b.drop s)
    rw [hp, List.length_drop, E.len] at this
    simp only at this
    omega
  have hk1 : (Pr.takeP (b.drop s)).2.2.1 = k := by rw [hp]
  have hk2 : (Pr.takeP (b.drop s)).2.2.2 = true := by rw [hp]
  have hk3 : (Pr.takeP (b.drop s)).1 = tg := by rw [hp]
  have hk4 : (Pr.takeP (b.drop s)).2.1 = an := by rw [hp]
  obtain ⟨As, hsls, hAs, hrds⟩ := slice_l _ n c s b E.len E.le E.nil hs
  have HRS := Lib.hid (And.intro hrds hAs)
  obtain ⟨s1, hs1⟩ : ∃ s1, s + k = s1 := ⟨_, rfl⟩
  have hs1z : (s : Int) + (k : Int) = (s1 : Int) := by omega
  have hs1n : s1 ≤ n := by omega
  have h2' := h2
  rw [hs1] at h2'
  obtain ⟨A2, hsl2, -, hrd2⟩ := slice_l _ n c s1 b E.len E.le E.nil hs1n
  obtain ⟨kk, hkk⟩ : ∃ z, blkF (b.drop s1) = z := ⟨_, rfl⟩
  have hsum : (s1 : Int) + (kk : Int) = (s2 : Int) := by rw [← h2', ← hkk]; unfold inBlk; omega
  have hs2n : s2 ≤ n := by rw [← h2', ← E.len]; exact blk_le (by rw [E.len]; exact hs1n)
  have hs12 : s1 ≤ s2 := by rw [← h2']; exact blk_ge b _
  obtain ⟨A3, hsl3, hA3, hrd3⟩ := slice_l _ n c s2 b E.len E.le E.nil hs2n
  obtain ⟨st0, hst0⟩ : ∃ z, (if k = 0 then s2 else s) = z := ⟨_, rfl⟩
  have HST := Lib.hid hst0
  have HRD2 := Lib.hid hrd2
  have HRD3 := Lib.hid (And.intro hrd3 hA3)
  have HKK := Lib.hid hkk
  have HP := Lib.hid hp
  have H2 := Lib.hid (And.intro h2 hs1)
  have HK := Lib.hid (And.intro hk1 (And.intro hk2 (And.intro hk3 hk4)))
  clear E hw hp h2 h2' hs1 hkk hrds hAs hrd2 hrd3 hA3 hst0 hk1 hk2 hk3 hk4
  go_enter Try.func75, Try.ntmps75
  go_wp2_with fail
  refine (Pr.refTake_any As (n - s) (c - s) (b.drop s) W (by rw [List.length_drop, HE.out.len]) (by omega) (by omega) HRS.out.2 (HE.out.byte.drop s) (HRS.out.1 _ (HE.out.rd.below HW.out))).mono ?_
  rintro e W0 ⟨t, a, ht, ha, rfl, hb0⟩
  rw [HK.out.2.2.1] at ht
  rw [HK.out.2.2.2] at ha
  rw [HK.out.1, HK.out.2.1]
  have HTA := Lib.hid (And.intro ht ha)
  have HB0 := Lib.hid hb0
  clear ht ha hb0 hsls HRS
  go_upto_region 2 with fail
  obtain ⟨W1, hW1⟩ : ∃ W1, W0.alloc (.cells #[.string t, .string a] 113) = W1 := ⟨_, rfl⟩
  obtain ⟨gp, hgp⟩ : ∃ g, W0.heap.size = g := ⟨_, rfl⟩
  have hb1 : Below W0.heap.size W0 W1 := by rw [← hW1]; exact (Below.refl _ _).alloc (Nat.le_refl _) _
  have p0 : W1.cell? ⟨gp, 0, none⟩ = some (.string t) := by rw [← hW1, ← hgp, World.cell?_alloc_mark]; rfl
  have p1 : W1.cell? ⟨gp, 1, none⟩ = some (.string a) := by rw [← hW1, ← hgp, World.cell?_alloc_mark]; rfl
  have hs1w : W1.heap.size = gp + 1 := by rw [← hW1, ← hgp]; simp
  rw [hW1, hgp]
  have HB1 : Hid (Below W.heap.size W W1) := below_step HB0.out hb1
  have HGP : Hid (W.heap.size ≤ gp) := by show W.heap.size ≤ gp; rw [← hgp]; exact HB0.out.size
  clear hW1 hgp hb1 HB0
  have P1 := Lib.hid p0
  go_wp2_with fail
  refine (refBlanks_any A2 (n - s1) (c - s1) (b.drop s1) W1 (by rw [List.length_drop, HE.out.len]) (by omega) (by omega) (HRD2.out _ (HE.out.rd.below (below_step HW.out HB1.out)))).mono ?_
  rintro e w' ⟨rfl, rfl⟩
  rw [HKK.out]
  clear hsl2 HRD2
  go_upto_region 7 with fail
  obtain ⟨W2, hW2⟩ : ∃ W2, W1.alloc (.cells #[.int .i64 0, .int .i64 0, .string ⟨#[]⟩, .string a, .string ⟨#[]⟩, .int .i64 (s : Int), .int .i64 0, .int .i64 0, .int .i64 0, .slice none 0 0] 41) = W2 := ⟨_, rfl⟩
  obtain ⟨gx, hgx⟩ : ∃ g, gp + 1 = g := ⟨_, rfl⟩
  have bx : Box W2 gx [.int .i64 0, .int .i64 0, .string ⟨#[]⟩, .string a, .string ⟨#[]⟩, .int .i64 (s : Int), .int .i64 0, .int .i64 0, .int .i64 0, .slice none 0 0] := by rw [← hW2, ← hgx, ← hs1w]; exact Box.new W1 _
  have hb2 : Below W1.heap.size W1 W2 := by rw [← hW2]; exact (Below.refl _ _).alloc (Nat.le_refl _) _
  rw [hgx, hW2]
  have p2 : W2.cell? ⟨gp, 0, none⟩ = some (.string t) := cell_keep hb2 p0
  have hne : gx ≠ gp := by omega
  have HNE := Lib.hid hne
  have HB2 : Hid (Below W.heap.size W W2) := below_step HB1.out hb2
  have HX2 := Lib.hid bx
  have HGX : Hid (W.heap.size ≤ gx) := by show W.heap.size ≤ gx; have := HGP.out; omega
  clear hW2 hgx hb2 p0 p1 hs1w bx hne HB1 HGP P1
  have P2 := Lib.hid p2
  clear p2
  have x5 := HX2.out.cell 5 _ rfl
  have f5 := HX2.out.frozen 5
  go_upto_if 48 with fail
  go_cut [14] from 49 to 50 (fun v U => v = .int .i64 (s2 : Int) ∧ Hid (Box U gx [.int .i64 0, .int .i64 0, .string ⟨#[]⟩, .string a, .string ⟨#[]⟩, .int .i64 (st0 : Int), .int .i64 0, .int .i64 0, .int .i64 0, .slice none 0 0] ∧ U.cell? ⟨gp, 0, none⟩ = some (.string t) ∧ Below W.heap.size W U))
  case first =>
    by_cases hk0 : k = 0
    · have hst : s2 = st0 := by have := HST.out; rw [if_pos hk0] at this; exact this
      have HST1 := Lib.hid hst
      clear hst
      subst hk0
      simp only [show ((0 : Nat) : Int) = 0 from rfl]
      go_wp2_with fail
      go_meet
      refine ⟨rfl, ?_, ?_, ?_⟩
      · rw [← HST1.out]; exact HX2.out.set 5 (.int .i64 (s2 : Int))
      · rw [World.cell?_setCell_other _ _ _ _ (by intro e; injection e with e; exact HNE.out e)]; exact P2.out
      · exact HB2.out.setCell (p := ⟨gx, 5, none⟩) HGX.out _
    · have hst : s = st0 := by have := HST.out; rw [if_neg hk0] at this; exact this
      have HST1 := Lib.hid hst
      have hk0' : ¬ (k : Int) = 0 := by omega
      have hk0'' : ((k : Int) == 0) = false := beq_eq_false_iff_ne.2 hk0'
      clear hst
      go_wp2_with fail
      go_meet
      refine ⟨rfl, ?_, P2.out, HB2.out⟩
      rw [← HST1.out]; exact HX2.out
  case rest =>
    obtain ⟨rfl, HC⟩ := hcut
    obtain ⟨V, hV⟩ : ∃ z, z = wc := ⟨_, rfl⟩
    subst hV
    have HX : Hid (Box V gx [.int .i64 0, .int .i64 0, .string ⟨#[]⟩, .string a, .string ⟨#[]⟩, .int .i64 (st0 : Int), .int .i64 0, .int .i64 0, .int .i64 0, .slice none 0 0]) := HC.out.1
    have HP0 : Hid (V.cell? ⟨gp, 0, none⟩ = some (.string t)) := HC.out.2.1
    have HB : Hid (Below W.heap.size W V) := HC.out.2.2
    have HWV : Hid (Below w.heap.size w V) := below_step HW.out HB.out
    clear HC x5 f5 HX2 P2 HB2
    have q42 : (b.getD s2 0 == 42) = false := beq_eq_false_iff_ne.2 h42
    have q34 : (b.getD s2 0 == 34) = false := beq_eq_false_iff_ne.2 h34
    have q39 : (b.getD s2 0 == 39) = false := beq_eq_false_iff_ne.2 h39
    have q91 : (b.getD s2 0 == 91) = false := beq_eq_false_iff_ne.2 h91
    have q123 : (b.getD s2 0 == 123) = false := beq_eq_false_iff_ne.2 h123
    have HNO : Hid (b.getD s2 0 ≠ 42 ∧ b.getD s2 0 ≠ 34 ∧ b.getD s2 0 ≠ 39 ∧ b.getD s2 0 ≠ 91 ∧ b.getD s2 0 ≠ 123) := ⟨h42, h34, h39, h91, h123⟩
    have HSF := Lib.hid hsf
    clear h42 h34 h39 h91 h123 hsf
    have dlt : ¬ (s2 : Int) < (n : Int) := by have := HGE.out; omega
    have dlt' : decide ((s2 : Int) < (n : Int)) = false := decide_eq_false dlt
    go_wp2_with fail
    refine (refStarts_any A3 (n - s2) (c - s2) (b.drop s2) fl V (by rw [List.length_drop, HE.out.len]) (by omega) (by omega) (HE.out.byte.drop s2) (HRD3.out.1 _ (HE.out.rd.below HWV.out)) false HSF.out).mono ?_
    rintro e w' ⟨rfl, rfl⟩
    clear hsl3
    have HX4 : Hid (Box (((V.setCell ⟨gx, 0, none⟩ (.int .i64 0)).setCell ⟨gx, 5, none⟩ (.int .i64 (s : Int))).setCell ⟨gx, 6, none⟩ (.int .i64 (s1 : Int))) gx [.int .i64 0, .int .i64 0, .string ⟨#[]⟩, .string a, .string ⟨#[]⟩, .int .i64 (s : Int), .int .i64 (s1 : Int), .int .i64 0, .int .i64 0, .slice none 0 0]) := (((HX.out.set 0 (.int .i64 0)).set 5 (.int .i64 (s : Int))).set 6 (.int .i64 (s1 : Int)))
    have HB4 : Hid (Below W.heap.size W (((V.setCell ⟨gx, 0, none⟩ (.int .i64 0)).setCell ⟨gx, 5, none⟩ (.int .i64 (s : Int))).setCell ⟨gx, 6, none⟩ (.int .i64 (s1 : Int)))) := (((HB.out.setCell (p := ⟨gx, 0, none⟩) HGX.out (.int .i64 0)).setCell (p := ⟨gx, 5, none⟩) HGX.out (.int .i64 (s : Int))).setCell (p := ⟨gx, 6, none⟩) HGX.out (.int .i64 (s1 : Int)))
    have HP4 : Hid (World.cell? (((V.setCell ⟨gx, 0, none⟩ (.int .i64 0)).setCell ⟨gx, 5, none⟩ (.int .i64 (s : Int))).setCell ⟨gx, 6, none⟩ (.int .i64 (s1 : Int))) ⟨gp, 0, none⟩ = some (.string t)) := by
      show World.cell? _ _ = _
      rw [World.cell?_setCell_other _ _ _ _ (by intro e; injection e with e; exact HNE.out e), World.cell?_setCell_other _ _ _ _ (by intro e; injection e with e; exact HNE.out e), World.cell?_setCell_other _ _ _ _ (by intro e; injection e with e; exact HNE.out e)]
      exact HP0.out
    have y0 := HX.out.cell 0 _ rfl
    have fy0 := HX.out.frozen 0
    have y5 := HX.out.cell 5 _ rfl
    have fy5 := HX.out.frozen 5
    have y6 := HX.out.cell 6 _ rfl
    have fy6 := HX.out.frozen 6
    go_upto_region 39 with fail
    generalize (((V.setCell ⟨gx, 0, none⟩ (.int .i64 0)).setCell ⟨gx, 5, none⟩ (.int .i64 (s : Int))).setCell ⟨gx, 6, none⟩ (.int .i64 (s1 : Int))) = V4 at *
    clear HX HB HP0 hs1z
    clear y0 fy0 y5 fy5 y6 fy6
    have x5 := HX4.out.cell 5 _ rfl
    have x7 := HX4.out.cell 7 _ rfl
    have f7 := HX4.out.frozen 7
    have x8 := HX4.out.cell 8 _ rfl
    have f8 := HX4.out.frozen 8
    have HX5 : Hid (Box ((V4.setCell ⟨gx, 7, none⟩ (.int .i64 (s : Int))).setCell ⟨gx, 8, none⟩ (.int .i64 (s : Int))) gx [.int .i64 0, .int .i64 0, .string ⟨#[]⟩, .string a, .string ⟨#[]⟩, .int .i64 (s : Int), .int .i64 (s1 : Int), .int .i64 (s : Int), .int .i64 (s : Int), .slice none 0 0]) := (HX4.out.set 7 _).set 8 _
    have HB5 : Hid (Below W.heap.size W ((V4.setCell ⟨gx, 7, none⟩ (.int .i64 (s : Int))).setCell ⟨gx, 8, none⟩ (.int .i64 (s : Int)))) := (HB4.out.setCell (p := ⟨gx, 7, none⟩) HGX.out _).setCell (p := ⟨gx, 8, none⟩) HGX.out _
    have HP5 : Hid (((V4.setCell ⟨gx, 7, none⟩ (.int .i64 (s : Int))).setCell ⟨gx, 8, none⟩ (.int .i64 (s : Int))).cell? ⟨gp, 0, none⟩ = some (.string t)) := by
      show World.cell? _ _ = _
      rw [World.cell?_setCell_other _ _ _ _ (by intro e; injection e with e; exact HNE.out e), World.cell?_setCell_other _ _ _ _ (by intro e; injection e with e; exact HNE.out e)]
      exact HP4.out
    go_upto_region 40 with fail
    generalize (V4.setCell ⟨gx, 7, none⟩ (.int .i64 (s : Int))).setCell ⟨gx, 8, none⟩ (.int .i64 (s : Int)) = V5 at *
    clear x5 x7 f7 x8 f8 HX4 HB4 HP4
    obtain ⟨r, hrr⟩ : ∃ r, strOfNums (inTag 0 0 (byt t) (byt ⟨#[]⟩)) = r := ⟨_, rfl⟩
    have HRR := Lib.hid hrr
    have x0 := HX5.out.cell 0 _ rfl
    have x1 := HX5.out.cell 1 _ rfl
    have x4 := HX5.out.cell 4 _ rfl
    have p5 := HP5.out
    clear hrr
    go_wp2_with fail
    refine (rtag_at (w := V5) (W := V5) (Below.refl _ _) 0 0 t ⟨#[]⟩ (by first | decide | omega) r HRR.out).mono ?_
    rintro e V6 ⟨rfl, hb6⟩
    have HX6 := Lib.hid (HX5.out.below hb6)
    have x2 := HX6.out.cell 2 _ rfl
    have f2 := HX6.out.frozen 2
    have HX7 := Lib.hid (HX6.out.set 2 (.string r))
    have HB7 : Hid (Below W.heap.size W (V6.setCell ⟨gx, 2, none⟩ (.string r))) := (below_step HB5.out hb6).setCell (p := ⟨gx, 2, none⟩) HGX.out _
    clear x0 x1 x4 p5 hb6 HX5 HB5 HP5
    go_upto_region 41 with fail
    generalize V6.setCell ⟨gx, 2, none⟩ (.string r) = V7 at *
    clear x2 f2 HX6
    have HX8 : Hid (Box V7.drew gx [.int .i64 0, .int .i64 0, .string r, .string a, .string ⟨#[]⟩, .int .i64 (s : Int), .int .i64 (s1 : Int), .int .i64 (s : Int), .int .i64 (s : Int), .slice none 0 0]) := HX7.out.below (Below.refl _ _).drew
    have HB8 : Hid (Below W.heap.size W V7.drew) := HB7.out.drew
    clear HX7 HB7
    refine gen_act fun a0 hA => ?_
    have hsz : a0.tmps.size = 208 := by rw [hA]; rfl
    have e15 : a0.eval (.tmp 15) = .pointer (some ⟨gx, 0, none⟩) := by rw [hA]; rfl
    refine region_gate (fun V => Box V gx [.int .i64 0, .int .i64 0, .string r, .string a, .string ⟨#[]⟩, .int .i64 (s : Int), .int .i64 (s1 : Int), .int .i64 (s : Int), .int .i64 (s : Int), .slice none 0 0]) 5 (by kernel_rfl) ?_
    change wpGate _ _ _ _ _ _ 7 _ _ _
    generalize V7.drew = V8 at *
    refine gate_take0 (i := 2) (v := .pointer (some ⟨gx, 6, none⟩)) rfl (by rfl) (by kernel_rfl) (by kernel_rfl) (by kernel_rfl) (fun _ _ _ h => h) rfl (fun V => field6_exec _ (.tmp 15) rfl _ V gx e15) HX8.out ?_
    refine gate_take (i := 0) (v := .agg #[.int .i64 0, .int .i64 0, .string r, .string a, .string ⟨#[]⟩, .int .i64 (s : Int), .int .i64 (s1 : Int), .int .i64 (s : Int), .int .i64 (s : Int), .slice none 0 0]) rfl (by rfl) (by kernel_rfl) (by kernel_rfl) (by kernel_rfl) (by kernel_rfl) (by kernel_rfl) (fun _ _ _ h => h) rfl (fun V hV => load10 _ (.tmp 15) rfl _ V gx _ _ _ _ _ _ _ _ _ _ (by simp [evp_ne, e15]) hV) HX8.out ?_
    refine gate_take (i := 3) (v := .int .i64 (s1 : Int)) rfl (by rfl) (by kernel_rfl) (by kernel_rfl) (by kernel_rfl) (by kernel_rfl) (by kernel_rfl) (fun _ _ _ h => h) rfl (fun V hV => by
      have c6 := hV.cell 6 _ rfl
      have e206 : ((a0.put (some 206) (.pointer (some ⟨gx, 6, none⟩))).put (some 204) (.agg #[.int .i64 0, .int .i64 0, .string r, .string a, .string ⟨#[]⟩, .int .i64 (s : Int), .int .i64 (s1 : Int), .int .i64 (s : Int), .int .i64 (s : Int), .slice none 0 0])).eval (.tmp 206) = .pointer (some ⟨gx, 6, none⟩) := by simp [evp_same, evp_ne, szp, hsz]
      exact loadI_exec _ (.tmp 206) rfl _ V _ _ e206 c6) HX8.out ?_
    obtain ⟨V9, hV9⟩ : ∃ z, V8.alloc (.cells #[.int .i64 0, .int .i64 0, .string r, .string a, .string ⟨#[]⟩, .int .i64 (s : Int), .int .i64 (s1 : Int), .int .i64 (s : Int), .int .i64 (s : Int), .slice none 0 0] 41) = z := ⟨_, rfl⟩
    have hb9 : Below V8.heap.size V8 V9 := by rw [← hV9]; exact (Below.refl _ _).alloc (Nat.le_refl _) _
    have HX9 := Lib.hid (HX8.out.below hb9)
    refine gate_one (i := 1) (by kernel_rfl) ?_
    refine wpOp_value (w' := V9) (v := .slice (some ⟨V8.heap.size, 0, none⟩) 1 1) rfl rfl (by rw [← hV9]; exact build1_exec _ (.tmp 204) rfl _ V8 _ _ _ _ _ _ _ _ _ _ (by simp [evp_same, evp_ne, szp, hsz])) ⟨fun _ => HX9.out, ?_⟩
    refine gate_one (i := 4) (by kernel_rfl) ?_
    refine wpOp_value (w' := V9) (v := .slice (some ⟨V8.heap.size, 0, none⟩) 1 1) rfl rfl (by simp [execOp, kput_none, evp_same, evp_ne, szp, hsz]) ⟨fun _ => HX9.out, ?_⟩
    refine gate_one (i := 5) (by kernel_rfl) ?_
    refine wpOp_value (w' := V9) (v := .int .i64 (s1 : Int)) rfl rfl (by simp [execOp, kput_none, evp_same, evp_ne, szp, hsz]) ⟨fun _ => HX9.out, ?_⟩
    refine gate_one (i := 6) (by kernel_rfl) ?_
    refine wpOp_value (w' := V9) (v := .int .i64 0) rfl rfl (by simp [execOp]; rfl) ⟨fun _ => HX9.out, ?_⟩
    refine gate_done (by kernel_rfl) ?_ _
    subst hA
    clear hsz e15
    go_wp2_with fail
    simp only [Act.put, List.setIfInBounds_toArray, List.set_cons_zero, List.set_cons_succ]
    have er : strOfNums (inTag 0 0 tg (byt ⟨#[]⟩)) = r := by have := HRR.out; rw [HTA.out.1] at this; exact this
    have ea : strOfNums an = a := by rw [← HTA.out.2, strOfNums_byt]
    have hr : inNodeG child deep b fl s 0 = .ok ([⟨0, 0, inTag 0 0 tg (byt ⟨#[]⟩), an, byt ⟨#[]⟩, s, s1, s, s, []⟩], s1) := by
      unfold inNodeG
      rw [HP.out]
      dsimp only
      rw [if_pos rfl, H2.out.1]
      have hcont : inCont child deep b fl s2 (0 + 1) = .ok ({ Nd.nil with kind := 0, style := 0, value := [] }, [], s2) := by
        unfold inCont
        rw [if_neg HNO.out.1, if_neg HNO.out.2.2.2.1, if_neg HNO.out.2.2.2.2]
        unfold inLeaf
        rw [if_neg HNO.out.2.1, if_neg HNO.out.2.2.1, if_neg (by rw [HSF.out]; decide)]
        rfl
      rw [hcont]
      simp only [inDone]
      rw [if_neg (by rintro ⟨h, _⟩; cases h), if_pos (by trivial), H2.out.2]
      rfl
    have hone := Nds.one (B := W.heap.size) V8 HB8.out.size ⟨0, 0, inTag 0 0 tg (byt ⟨#[]⟩), an, byt ⟨#[]⟩, s, s1, s, s, []⟩ rfl
    have hcc : (ndC ((⟨0, 0, inTag 0 0 tg (byt ⟨#[]⟩), an, byt ⟨#[]⟩, s, s1, s, s, []⟩ : Nd), .slice none 0 0)).toArray = #[.int .i64 0, .int .i64 0, .string r, .string a, .string ⟨#[]⟩, .int .i64 (s : Int), .int .i64 (s1 : Int), .int .i64 (s : Int), .int .i64 (s : Int), .slice none 0 0] := by
      simp only [ndC, er, ea, strOfNums_byt]
    rw [hcc, hV9] at hone
    refine bodyPost_ret (v := .tuple #[.slice (some ⟨V8.heap.size, 0, none⟩) 1 1, .int .i64 (s1 : Int), .int .i64 0]) (by simp [results, Try.results75, go_sem]) rfl ?_
    rw [hr]
    exact ⟨_, _, rfl, hone, rfl, below_step HB8.out hb9⟩
end
theorem rnode_G {w W : World} {A : Option Addr} {n c s : Nat} {b : List Int} {fl : Bool} {d : Int} {child : Nat → Nat → InR} {deep : Bool} (E : REnv w A n c b) (hw : Below w.heap.size w W) (hs : s ≤ n) (hd0 : 0 ≤ d)
    (hc : (deep = true ∧ 64 ≤ d) ∨ (deep = false ∧ d < 64 ∧ ∃ f, child = inNode f b true ∧ (64 - (d + 1)).toNat = f ∧ RNodeC w A n c b f)) :
    Calls Try.prog 75 #[.slice A n c, .int .i64 (s : Int), .bool fl, .int .i64 d] W (RNodeP W (inNodeG child deep b fl s 0)) := by
  obtain ⟨⟨tg, an, k, ok⟩, hp⟩ : ∃ p, Pr.takeP (b.drop s) = p := ⟨_, rfl⟩
  cases ok with
  | false => exact rnodeBad_at E hw hs (by rw [hp])
  | true =>
    obtain ⟨s2, h2⟩ : ∃ s2, inBlk b (s + k) = s2 := ⟨_, rfl⟩
    by_cases h42 : b.getD s2 0 = 42
    · exact rnodeAl_at E hw hs hp h2 h42
    · by_cases h34 : b.getD s2 0 = 34
      · exact rnodeQ34_at E hw hs hp h2 h34
      · by_cases h39 : b.getD s2 0 = 39
        · exact rnodeQ39_at E hw hs hp h2 h39
        · by_cases h91 : b.getD s2 0 = 91
          · rcases hc with ⟨h, hd⟩ | ⟨rfl, hd, f, rfl, hf, C⟩
            · exact rnodeDeep91_at E hw hs hp h2 h91 hd h
            · exact rnodeC91_at E hw hs hp h2 h91 hd0 hd hf C
          · by_cases h123 : b.getD s2 0 = 123
            · rcases hc with ⟨h, hd⟩ | ⟨rfl, hd, f, rfl, hf, C⟩
              · exact rnodeDeep123_at E hw hs hp h2 h123 hd h
              · exact rnodeC123_at E hw hs hp h2 h123 hd0 hd hf C
            · cases hsf : startF (b.drop s2) fl with
              | true => exact rnodePl_at E hw hs hp h2 h42 h34 h39 h91 h123 hsf
              | false =>
                by_cases hlt : s2 < n
                · exact rnodeNu_at E hw hs hp h2 h42 h34 h39 h91 h123 hsf hlt
                · exact rnodeNv_at E hw hs hp h2 h42 h34 h39 h91 h123 hsf (by omega)
theorem rnode_at {w : World} {A : Option Addr} {n c : Nat} {b : List Int} (E : REnv w A n c b) : ∀ f, RNodeC w A n c b f
  | 0 => fun W s fl d hw hs hd0 hd1 hf => rnode_G E hw hs hd0 (.inl ⟨rfl, by omega⟩)
  | f + 1 => fun W s fl d hw hs hd0 hd1 hf => rnode_G E hw hs hd0 (.inr ⟨rfl, by omega, f, rfl, by omega, rnode_at E f⟩)
/-- In a text without a byte 10 there is no byte 13. -/
theorem chk_no13 : ∀ (f : Nat) (zs : List Int) (k : Int), zs.length ≤ f → Byte zs → (chk f zs k).2 = 0 → 13 ∈ zs → 10 ∈ zs := by
  intro f
  induction f with
  | zero =>
    intro zs k hl _ _ h
    have : zs = [] := List.eq_nil_of_length_eq_zero (by omega)
    subst this; cases h
  | succ f ih =>
    intro zs k hl hb h h13
    simp only [chk] at h
    split at h
    · rename_i h0; subst h0; cases h13
    · split at h
      · cases h
      · rename_i h0 hbad
        rcases hr : runeF zs with ⟨r, j, ok⟩
        unfold badAt at hbad
        rw [hr] at hbad h
        simp only [Bool.or_eq_true, Bool.and_eq_true, not_or, Bool.not_eq_true', Bool.not_eq_false, beq_iff_eq, not_and] at hbad
        obtain ⟨⟨b1, b2⟩, b3⟩ := hbad
        subst b1
        obtain ⟨hok, hj1, hj2, hu⟩ := utf_runeF zs hb r j hr
        have hd := ih (zs.drop j.toNat) _ (by rw [List.length_drop]; omega) (hb.drop _) h
        rw [← List.take_append_drop j.toNat zs] at h13
        rcases List.mem_append.1 h13 with h1 | h1
        · rw [← hu] at h1
          by_cases hlt : r < 128
          · unfold utfF at h1
            rw [if_pos hlt] at h1
            simp only [List.mem_singleton] at h1
            have hbr : brk zs = true := by
              cases hz : brk zs with
              | true => rfl
              | false => exact absurd hz (by simpa using b3 h1.symm)
            unfold brk at hbr
            simp only [Bool.and_eq_true, decide_eq_true_eq, beq_iff_eq] at hbr
            have := List.mem_of_getElem? (getD_at hbr.1)
            rwa [hbr.2] at this
          · have := utfF_hi (by omega) (okR_parts hok).2.1 13 h1
            omega
        · exact List.mem_of_mem_drop (hd h1)
theorem check_no13 {zs : List Int} (hb : Byte zs) (h : (checkF zs).2 = 0) (h13 : 13 ∈ zs) : 10 ∈ zs := by
  unfold checkF at h
  split at h
  · cases h
  · split at h
    · rename_i hm
      have h3 : zs.take 3 = [239, 187, 191] := by
        unfold mrkC at hm
        simp only [Bool.and_eq_true, decide_eq_true_eq, beq_iff_eq] at hm
        match zs, hm with
        | x :: y :: z :: t, hm => simp at hm; obtain ⟨⟨rfl, rfl⟩, rfl⟩ := hm; rfl
        | [], hm => simp at hm
        | [x], hm => simp at hm
        | [x, y], hm => simp at hm
      rw [← List.take_append_drop 3 zs] at h13
      rcases List.mem_append.1 h13 with h1 | h1
      · rw [h3] at h1; simp at h1
      · exact List.mem_of_mem_drop (chk_no13 _ _ _ (by rw [List.length_drop]; omega) (hb.drop 3) h h1)
    · exact chk_no13 _ _ _ (Nat.le_refl _) hb h h13
def RParP (W : World) (r : Except Int (List Nd)) (e : Ending) (W' : World) : Prop :=
  match r with
  | .error q => e = .returned (.tuple #[.slice none 0 0, .int .i64 q]) ∧ Below W.heap.size W W' ∧ q ≠ 0
  | .ok l => ∃ v P, e = .returned (.tuple #[v, .int .i64 0]) ∧ Nds W.heap.size W' v P ∧ lst P = l ∧ Below W.heap.size W W'
theorem rchk_y (b : List Int) (h : (checkF b).2 = 0) : b.length ≤ 65536 := by
  rcases Nat.lt_or_ge 65536 b.length with h1 | h1
  · unfold checkF at h
    rw [if_pos h1] at h; cases h
  · exact h1
def rcP (j : Nat) : InR → Except Int (List Nd)
  | .error e => .error e
  | .ok (l, m) => if m = 0 ∨ m < j then .error 2 else .ok l
theorem rparse_nil (fl : Bool) : inParse [] fl = .error 2 := by cases fl <;> rfl
set_option maxHeartbeats 4000000 in
theorem rparse_at (W : World) (u : ByteArray) (hu : u.size ≤ 1000000) (fl : Bool) (r : Except Int (List Nd)) (hr : inParse (byt u) fl = r) :
    Calls Try.prog 63 #[.string u, .bool fl] W (RParP W r) := by
  obtain ⟨cap, W1, B⟩ := bytes_of u (by omega) W
  have hrun := B.run
  obtain ⟨n, hn⟩ : ∃ n, u.size = n := ⟨_, rfl⟩
  have hle := B.le
  have hmx := B.max
  rw [hn] at hrun hle
  obtain ⟨b, hb⟩ : ∃ b, byt u = b := ⟨_, rfl⟩
  have hrd := B.rd
  rw [hb] at hrd hr
  have hbl : b.length = n := by rw [← hb, byt_len, hn]
  have hby : Byte b := by rw [← hb]; exact byt_byte u
  obtain ⟨g, hg⟩ : ∃ g, W.heap.size = g := ⟨_, rfl⟩
  rw [hg] at hrun hrd
  obtain ⟨⟨x, y⟩, hxy⟩ : ∃ p, checkF b = p := ⟨_, rfl⟩
  have HBL := Lib.hid hbl
  have HBY := Lib.hid hby
  have HRD := Lib.hid hrd
  have HB1 := Lib.hid B.below
  have HR := Lib.hid hr
  have HXY := Lib.hid hxy
  have HU := Lib.hid (And.intro hb hn)
  have HG := Lib.hid hg
  clear B hrd hbl hby hr hxy hb hn hg
  by_cases hy : y = 0
  · subst hy
    have h65 : n ≤ 65536 := by rw [← HBL.out]; exact rchk_y b (by rw [HXY.out])
    obtain ⟨mk, hmk⟩ : ∃ mk, (b.take 3 == [239, 187, 191]) = mk := ⟨_, rfl⟩
    have HMK := Lib.hid hmk
    clear hmk
    go_enter Try.func63, Try.ntmps63
    go_wp2_with fail
    refine (refCheck_at (some ⟨g, 0, none⟩) n cap b W1 HBL.out hle hmx HBY.out HRD.out x 0 HXY.out).mono ?_
    rintro e w' ⟨rfl, rfl⟩
    go_upto_region 3 with fail
    go_cut [32] from 20 to 32 (fun v U => v = .bool mk ∧ W1 = U)
    case first =>
      by_cases h3 : 3 ≤ n
      · have hs3 : ∀ W, (Instr.slice 96 (.slice (some ⟨g, 0, none⟩) n cap) none (some (.int .i64 3)) none).run Try.prog W = .ok (.slice (some ⟨g, 0, none⟩) 3 cap) W := slice_h (some ⟨g, 0, none⟩) n cap 3 h3 hle (by intro e; cases e)
        have hcv := run_string_rd W1 (some ⟨g, 0, none⟩) 3 cap (b.take 3) (by rw [List.length_take, HBL.out]; omega) (HRD.out.take 3)
        have q1 := str_eq (b.take 3) (HBY.out.take 3) ⟨#[239, 187, 191]⟩
        have t1 : (⟨#[239, 187, 191]⟩ : ByteArray).toList = [239, 187, 191] := by decide +kernel
        have b1 : byt ⟨#[239, 187, 191]⟩ = [239, 187, 191] := rfl
        rw [t1, b1, HMK.out] at q1
        have d3 : (3 : Int) ≤ (n : Int) := by omega
        have d3' : decide ((3 : Int) ≤ (n : Int)) = true := decide_eq_true d3
        generalize strOfNums (b.take 3) = s3 at *
        clear t1 b1 h3
        go_wp2_with fail
        go_meet
        exact ⟨rfl, rfl⟩
      · have d3 : ¬ (3 : Int) ≤ (n : Int) := by omega
        have d3' : decide ((3 : Int) ≤ (n : Int)) = false := decide_eq_false d3
        have hm : mk = false := by
          rw [← HMK.out]
          refine beq_eq_false_iff_ne.2 fun e => ?_
          have := congrArg List.length e
          rw [List.length_take, HBL.out] at this
          simp at this
          omega
        subst hm
        go_wp2_with fail
        go_meet
        exact ⟨rfl, rfl⟩
    case rest =>
      obtain ⟨rfl, rfl⟩ := hcut
      cases mk with
      | true =>
        have hre : r = .error 1 := by
          rw [← HR.out]; unfold inParse inText
          rw [HMK.out]; simp
        go_wp2_with fail
        go_ret2
        rw [hre]
        exact ⟨rfl, HB1.out, by decide⟩
      | false =>
        go_wp2_with fail
        go_loopw [35] (fun i V => ∃ j : Nat, j ≤ n ∧ i = .int .i64 (j : Int) ∧ V = W1 ∧ Hid (∀ k, k < j → b.getD k 0 ≠ 10 ∧ b.getD k 0 ≠ 13)) (fun i _ => n - (intOf i).toNat)
        case atStart => exact ⟨0, Nat.zero_le _, rfl, rfl, fun k hk => by omega⟩
        case round =>
          obtain ⟨j, hj, rfl, rfl, HJ⟩ := hrel
          by_cases hlt : j < n
          · have dj : (j : Int) < (n : Int) := by omega
            have cj : wr.cell? ⟨g, j, none⟩ = some (.int .u8 (b.getD j 0)) := by
              obtain ⟨bb, off, e, hc⟩ := HRD.out.addr (by rw [HBL.out]; omega)
              have h := hc j (by rw [HBL.out]; exact hlt)
              simp only [Option.some.injEq, Addr.mk.injEq] at e
              obtain ⟨rfl, rfl, _⟩ := e
              rw [Nat.zero_add] at h
              exact h
            have hmem : b.getD j 0 ∈ b := List.mem_of_getElem? (getD_at (by rw [HBL.out]; exact hlt))
            by_cases h10 : b.getD j 0 = 10 ∨ b.getD j 0 = 13
            · have hre : r = .error 1 := by
                have h10' : 10 ∈ b := by
                  rcases h10 with h | h
                  · rw [h] at hmem; exact hmem
                  · rw [h] at hmem; exact check_no13 HBY.out (by rw [HXY.out]) hmem
                rw [← HR.out]; unfold inParse inText
                rw [List.contains_iff_mem.2 h10']; simp
              have HRE := Lib.hid hre
              clear hre hmem
              generalize b.getD j 0 = z at *
              rcases h10 with rfl | rfl
              · go_wp2_with fail
                go_ret2
                rw [HRE.out]
                exact ⟨rfl, HB1.out, by decide⟩
              · go_wp2_with fail
                go_ret2
                rw [HRE.out]
                exact ⟨rfl, HB1.out, by decide⟩
            · have h1 : b.getD j 0 ≠ 10 := fun e => h10 (.inl e)
              have h2 : b.getD j 0 ≠ 13 := fun e => h10 (.inr e)
              have HZ : Hid (b.getD j 0 ≠ 10 ∧ b.getD j 0 ≠ 13) := ⟨h1, h2⟩
              have q1 : (b.getD j 0 == 10) = false := beq_eq_false_iff_ne.2 h1
              have q2 : (b.getD j 0 == 13) = false := beq_eq_false_iff_ne.2 h2
              clear h10 h1 h2 hmem
              generalize hz : b.getD j 0 = z at cj q1 q2
              have HZZ := Lib.hid hz
              clear hz
              go_wp2_with fail
              go_roundw
              case rel =>
                refine ⟨j + 1, by omega, by go_num, by trivial, fun k hk => ?_⟩
                rcases Nat.lt_or_ge k j with h | h
                · exact HJ.out k h
                · obtain rfl : k = j := by omega
                  exact HZ.out
              case measure => simp [intOf]; omega
          · obtain rfl : j = n := by omega
            have hno : b.contains 10 = false := by
              cases hc : b.contains 10 with
              | false => rfl
              | true =>
                rw [List.contains_iff_mem] at hc
                obtain ⟨k, hk⟩ := List.mem_iff_getElem?.1 hc
                have hkl := (List.getElem?_eq_some_iff.1 hk).1
                exact absurd (by simp [List.getD, hk]) (HJ.out k (by rw [← HBL.out]; exact hkl)).1
            have htx : inText b = true := by unfold inText; rw [HXY.out, HMK.out, hno]; rfl
            by_cases h0 : j = 0
            · subst h0
              have hb0 : b = [] := List.eq_nil_of_length_eq_zero HBL.out
              have hre : r = .error 2 := by rw [← HR.out, hb0]; exact rparse_nil fl
              have hu0 : u = ⟨#[]⟩ := by
                have h := HU.out.1
                rw [hb0] at h
                have : strOfNums (byt u) = u := strOfNums_byt u
                rw [h] at this
                rw [← this]; rfl
              have HRE := Lib.hid hre
              have HU0 := Lib.hid hu0
              clear hre hb0 htx hno
              subst hu0
              go_wp2_with fail
              go_ret2
              rw [HRE.out]
              exact ⟨rfl, HB1.out, by decide⟩
            · have hune : u.toList.isEmpty = false ∧ ¬ u.toList = [] := by
                have h := HU.out.2
                have hne : ¬ u.toList = [] := by
                  intro e
                  rw [Lib.toList_data] at e
                  have := congrArg List.length e
                  simp at this
                  have h3 : u.size = 0 := by simpa using this
                  omega
                exact ⟨by simpa using hne, hne⟩
              obtain ⟨u1, u2⟩ := hune
              have E : REnv wr (some ⟨g, 0, none⟩) j cap b := ⟨HBL.out, hle, hmx, (fun e => by cases e), HBY.out, HRD.out, by omega⟩
              have C := Lib.hid (rnode_at E 64 wr 0 fl 0 (Below.refl _ _) (Nat.zero_le _) (by omega) (by omega) rfl)
              obtain ⟨q, hq⟩ : ∃ q, inNode 64 b fl 0 0 = q := ⟨_, rfl⟩
              have hrr : r = rcP j q := by
                rw [← HR.out]; unfold inParse
                rw [if_pos htx, hq, HBL.out]
                cases q with
                | error e => rfl
                | ok z => rfl
              have hsz : ∀ l m, q = .ok (l, m) → m ≤ j := fun l m e => by
                have := node_size b 64 fl 0 0 l m (Nat.zero_le _) (hq.trans e)
                rw [HBL.out] at this
                exact this.2.1
              have HRR := Lib.hid hrr
              have HSZ := Lib.hid hsz
              rw [hq] at C
              clear hrr hsz hq htx hno E
              go_wp2_with fail
              refine C.out.mono ?_
              clear C
              intro e W2 h2
              cases q with
              | error z =>
                obtain ⟨rfl, hb2, hz⟩ := h2
                have hne : (z != 0) = true := bne_iff_ne.2 hz
                have H2 := Lib.hid (And.intro hb2 hz)
                clear hb2 hz
                go_wp2_with fail
                go_ret2
                have hre : r = .error z := HRR.out
                rw [hre]
                exact ⟨rfl, below_step HB1.out H2.out.1, H2.out.2⟩
              | ok z =>
                obtain ⟨l, m⟩ := z
                obtain ⟨v, P, rfl, hN, hL, hb2⟩ := h2
                have hmj := HSZ.out l m rfl
                have H2 := Lib.hid (And.intro (hN.low HB1.out.size) (And.intro hL hb2))
                obtain ⟨A9, c9, rfl, _⟩ := own_form hN.row
                clear hN hL hb2
                have hrr2 : r = if m = 0 ∨ m < j then .error 2 else .ok l := HRR.out
                have HR2 := Lib.hid hrr2
                clear hrr2 HRR HSZ
                by_cases hm : m = j
                · subst hm
                  have hre : r = .ok l := by rw [HR2.out, if_neg (by omega)]
                  go_wp2_with fail
                  go_ret2
                  rw [hre]
                  exact ⟨_, P, rfl, H2.out.1, H2.out.2.1, below_step HB1.out H2.out.2.2⟩
                · have hre : r = .error 2 := by rw [HR2.out, if_pos (by omega)]
                  have hm1 : ((m : Int) != (j : Int)) = true := bne_iff_ne.2 (by omega)
                  have hm2 : ¬ (m : Int) = (j : Int) := by omega
                  go_wp2_with fail
                  go_ret2
                  rw [hre]
                  exact ⟨rfl, below_step HB1.out H2.out.2.2, by decide⟩
  · have hre : r = .error 1 := by
      rw [← HR.out]; unfold inParse inText
      rw [HXY.out]
      simp [hy]
    have hne : (y != 0) = true := bne_iff_ne.2 hy
    go_enter Try.func63, Try.ntmps63
    go_wp2_with fail
    refine (refCheck_at (some ⟨g, 0, none⟩) n cap b W1 HBL.out hle hmx HBY.out HRD.out x y HXY.out).mono ?_
    rintro e w' ⟨rfl, rfl⟩
    go_wp2_with fail
    go_ret2
    rw [hre]
    exact ⟨rfl, HB1.out, by decide⟩
end Go.Proofs.Ytcddlconcngjlaa
