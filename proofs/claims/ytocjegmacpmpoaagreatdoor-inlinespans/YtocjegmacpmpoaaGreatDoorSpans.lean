/-
  Proved: the card of the law 'scholium/scholiumlaw12.InlineSpans' (for every input it returns true, and every argument reads as it did before; the package variables that the row lists are tied to the program's text). No conditions.
-/
import Derived.Test.YtocjegmacpmpoaaGreatDoorRows
import Derived.Test.YtocjegmacpmpoaaGreatDoorCards
import Derived.Test.YtocjegmacpmpoaaGreatDoorTie
import Derived.Test.YtocjegmacpmpoaaGreatDoorDoor
import Derived.Test.YtocjegmacpmpoaaGreatDoorMC
import Derived.Test.YtocjegmacpmpoaaGreatDoorMH
import Derived.Test.YtocjegmacpmpoaaGreatDoorMA
import Derived.Test.YtocjegmacpmpoaaGreatDoorMI
import Derived.Test.YtocjegmacpmpoaaGreatDoorMJ
import Derived.WalkKit
import Derived.ProofKit
import Derived.OpenShut
import Derived.ShutString
import Derived.ChangeOld
import Derived.Below
import Derived.LaidMore
import Derived.Lay
import Derived.SevenTiedAt
namespace Go.Proofs.YtocjegmacpmpoaaGreatDoor.inlineSpans
open Go.ChangeShapes Go.WideShapes Go.ChangeAt Go.RowKit
open Go.ChangeMaps (open_string shut_string)
set_option linter.unusedVariables false

theorem own : ownKnob Tryz.prog.godebug = none := by kernel_rfl
theorem laidOut : laidOutB Tryz.prog = true := by kernel_rfl

/-- A slice of integers that came in. -/
def IsRow (k : IntKind) (w : World) (a : Option Addr) (len cap : Nat) (zs : List Int) : Prop :=
  (a = none ∧ len = 0 ∧ cap = 0 ∧ zs = []) ∨
  ∃ x, a = some x ∧ len ≤ cap ∧ cap ≤ maxLen ∧ zs.length = cap ∧ (∀ i, i < zs.length → w.cell? (x.add i) = some (.int k (zs.getD i 0))) ∧ ∀ n ∈ zs, (Lit.int k n).wf = true

set_option linter.unusedSimpArgs false
theorem parse_spans {b : List Int} {fl : Bool} {l : List Nd} (h : inParse b fl = .ok l) : l.length ≤ 65537 ∧ (∀ x ∈ l, x.en ≤ b.length) ∧ Sps 0 l (lkp 0 l) ∧ 0 < l.length ∧ inNode 64 b fl 0 0 = .ok (l, b.length) := by
  unfold inParse at h
  split at h
  · rename_i ht
    have hlen : b.length ≤ 65536 := by
      unfold inText at ht
      simp only [Bool.and_eq_true, beq_iff_eq] at ht
      exact chk_y b ht.1
    cases hn : inNode 64 b fl 0 0 with
    | error e => rw [hn] at h; cases h
    | ok y =>
      obtain ⟨l', n⟩ := y
      rw [hn] at h
      dsimp only at h
      split at h
      · cases h
      · rename_i hne
        simp only [Except.ok.injEq] at h
        subst h
        have hz := node_size b 64 fl 0 0 _ _ (Nat.zero_le _) hn
        have h1 := hz.2.1
        have h2 := hz.2.2.2.1
        obtain rfl : n = b.length := by omega
        obtain ⟨_, s2, s3, x, t, rfl, _⟩ := node_sp b 64 fl 0 0 _ _ hn
        exact ⟨by omega, s2, s3, by simp, rfl⟩
  · cases h
/-- Each scalar of a play's text, by itself, is that scalar. -/
theorem play_rep {b : List Int} {l : List Nd} (hp : PyN 4 b) (h : inNode 64 b true 0 0 = .ok (l, b.length)) : ∀ y ∈ l, Rep b y := by
  obtain ⟨m, L, hi⟩ := pyN_is 4 b hp
  have := hi.node b [] 0 64 (by simp) ⟨0, [], rfl, .inl rfl⟩ (by omega)
  rw [h] at this
  simp only [Except.ok.injEq, Prod.mk.injEq] at this
  obtain ⟨rfl, _⟩ := this
  intro y hy
  obtain ⟨z, hz, rfl⟩ := List.mem_map.1 hy
  have := hi.rep z hz
  have e : sfN 0 z = z := by cases z; rfl
  rw [e]; exact this
theorem chn_look {l : List Nd} {i top last : Nat} {k : Nat} {ks : List Nat} (h : Chn (lkp 0 l) i top last (k :: ks)) : ∃ y, i < k ∧ k < l.length ∧ l[k]? = some y ∧ last ≤ y.st ∧ y.en ≤ top ∧ Chn (lkp 0 l) i top y.en ks := by
  obtain ⟨y, h1, h2, h3, h4, h5⟩ := h
  unfold lkp at h2
  rw [if_pos (Nat.zero_le _), Nat.sub_zero] at h2
  exact ⟨y, h1, (List.getElem?_eq_some_iff.1 h2).1, h2, h3, h4, h5⟩
/-- A list of nodes looked at: its Kids, too. -/
theorem listP_looks {W : World} {v : Value} {l : List Nd} (h : ListP W v l) (h0 : 0 < l.length) : ∃ g cap, v = .slice (some ⟨g, 0, none⟩) l.length cap ∧ l.length ≤ cap ∧ cap ≤ 9223372036854775807 ∧ ∀ (i : Nat) (x : Nd), l[i]? = some x →
    ∃ A c, x.kids.length ≤ c ∧ c ≤ 9223372036854775807 ∧ RdC W A (kidC x.kids) ∧ ∀ (j : Nat) (u : Value), (ndC (x, .slice A x.kids.length c))[j]? = some u → W.cell? ⟨g, i * 10 + j, none⟩ = some u := by
  obtain ⟨B, P, hn, rfl⟩ := h
  have hl : (lst P).length = P.length := by simp [lst]
  rw [hl] at h0 ⊢
  obtain ⟨g, cap, rfl, h1, h2, h3, h4⟩ := hn.form h0
  refine ⟨g, cap, rfl, h1, h2, ?_⟩
  intro i x hi
  obtain ⟨p, hp, rfl⟩ : ∃ p, P[i]? = some p ∧ p.1 = x := by
    simp only [lst, List.getElem?_map, Option.map_eq_some_iff] at hi
    exact hi
  have hk := hn.kid i p hp
  obtain ⟨A, c, e, hc1, hc2, _⟩ := own_form hk
  refine ⟨A, c, hc1, hc2, ?_, fun j u hu => hn.cell hp j u (by rw [← hu, ← e])⟩
  rw [e] at hk
  exact RdC.own hk
theorem rdC_below {W W' : World} {A : Option Addr} {l : List Value} (h : RdC W A l) (hb : Below W.heap.size W W') : RdC W' A l := h.below hb
theorem ndC_spell (x : Nd) (kv : Value) (tg an vl : ByteArray) (h1 : strOfNums x.tag = tg) (h2 : strOfNums x.anchor = an) (h3 : strOfNums x.value = vl) :
    ndC (x, kv) = [.int .i64 x.kind, .int .i64 x.style, .string tg, .string an, .string vl, .int .i64 (x.st : Int), .int .i64 (x.en : Int), .int .i64 (x.hd : Int), .int .i64 (x.mr : Int), kv] := by
  subst h1 h2 h3; rfl
theorem byt_extract (s : ByteArray) (i j : Nat) : byt (s.extract i j) = ((byt s).drop i).take (j - i) := by
  unfold byt
  rw [ByteArray.data_extract, Array.toList_extract, List.extract_eq_take_drop, List.map_take, List.map_drop]
set_option maxHeartbeats 8000000 in
set_option maxRecDepth 100000 in
theorem walk (a0 : Value) (w : World) (w0 : IsPlan w a0) (hSM : Shorts w ∧ MaxL w) :
    Calls Tryz.prog 5 #[a0] w fun e w' => e = .returned (.bool true) ∧ Below w.heap.size w w' := by
  obtain ⟨A1, n1, c1, A2, n2, c2, rfl, hp⟩ := w0
  have HS := Lib.hid hSM.1
  have HM := Lib.hid hSM.2
  have HP := Lib.hid hp
  have h48 : pySz 4 ≤ 30000 := by decide
  clear hSM hp
  obtain ⟨W0, hW0⟩ : ∃ W0, w.alloc (.cells #[.slice A1 n1 c1, .slice A2 n2 c2] 25) = W0 := ⟨_, rfl⟩
  have HB0 : Hid (Below w.heap.size w W0) := by show Below _ _ _; rw [← hW0]; exact (Below.refl _ _).alloc (Nat.le_refl _) _
  have pq0 : W0.cell? ⟨w.heap.size, 0, none⟩ = some (.slice A1 n1 c1) := by rw [← hW0, World.cell?_alloc_mark]; rfl
  have pq1 : W0.cell? ⟨w.heap.size, 1, none⟩ = some (.slice A2 n2 c2) := by rw [← hW0, World.cell?_alloc_mark]; rfl
  go_enter Tryz.func5, Tryz.ntmps5
  go_wp2_with fail
  clear hW0 pq0 pq1
  refine (play_at HP.out HB0.out).mono ?_
  rintro e W1 ⟨s, hs, rfl, hbb⟩
  have hsz : s.size ≤ 30000 := by have := pyN_len 4 _ hs; rw [byt_len] at this; omega
  have HB1 := Lib.hid hbb
  have HPY := Lib.hid hs
  clear hs hbb h48 HB0
  obtain ⟨r, hr⟩ : ∃ r, inParse (byt s) true = r := ⟨_, rfl⟩
  have HR := Lib.hid hr
  clear hr
  go_wp2_with fail
  refine (parse_at HB1.out HS.out HM.out s (by omega) true r HR.out).mono ?_
  intro e W2 h2
  cases r with
  | error q =>
    obtain ⟨rfl, hb2, hq⟩ := h2
    have HB2 := Lib.hid hb2
    have hne : (q != 0) = true := bne_iff_ne.2 hq
    clear hb2 hq
    go_wp2_with fail
    refine (wakes_at HB2.out HS.out HM.out).mono ?_
    rintro e W3 ⟨rfl, hb3⟩
    have HB3 := Lib.hid hb3
    clear hb3
    go_wp2_with fail
    go_ret
    exact ⟨rfl, HB3.out⟩
  | ok l =>
    obtain ⟨v, rfl, hL, hb2⟩ := h2
    obtain ⟨hl1, hl2, hl3, hl4, hl5⟩ := parse_spans HR.out
    have hrep := play_rep HPY.out hl5
    obtain ⟨g, cap, rfl, hc1, hc2, hlook⟩ := listP_looks hL hl4
    obtain ⟨n, hn⟩ : ∃ n, l.length = n := ⟨_, rfl⟩
    obtain ⟨sn, hsn⟩ : ∃ z, s.size = z := ⟨_, rfl⟩
    rw [byt_len, hsn] at hl2
    rw [hn] at hl1 hl4 hc1 ⊢
    have HB2 := Lib.hid hb2
    have HLK := Lib.hid hlook
    have HSP := Lib.hid (And.intro hl2 (And.intro hl3 hrep))
    have HN := Lib.hid hn
    have HSN := Lib.hid hsn
    have hn0 : (0 : Int) < (n : Int) := by omega
    have hnz : ¬ n = 0 := by omega
    have hnb : ((n : Int) == 0) = false := beq_eq_false_iff_ne.2 (by omega)
    obtain ⟨x0, hx0⟩ : ∃ x, l[0]? = some x := ⟨l[0]'(by rw [hn]; exact hl4), List.getElem?_eq_getElem _⟩
    have hx0e := hl2 x0 (List.mem_of_getElem? hx0)
    obtain ⟨Ak, ck, _, _, _, hc⟩ := hlook 0 x0 hx0
    have c5 := hc 5 _ rfl
    have c6 := hc 6 _ rfl
    simp only [Nat.zero_mul, Nat.zero_add] at c5 c6
    obtain ⟨st0, hst0⟩ : ∃ z, x0.st = z := ⟨_, rfl⟩
    obtain ⟨en0, hen0⟩ : ∃ z, x0.en = z := ⟨_, rfl⟩
    rw [hst0] at c5
    rw [hen0] at c6 hx0e
    have d5 : ¬ (st0 : Int) < 0 := by omega
    have d5' : decide ((st0 : Int) < 0) = false := decide_eq_false d5
    have d6 : ¬ (sn : Int) < (en0 : Int) := by omega
    have d6' : decide ((sn : Int) < (en0 : Int)) = false := decide_eq_false d6
    have d6'' : decide (sn < en0) = false := decide_eq_false (by omega)
    have hlens : (s.size : Int) = (sn : Int) := by omega
    clear hL hl2 hl3 hl5 hrep hlook hb2 hx0 hst0 hen0 hc hn hsn
    go_wp2_with fail
    clear c5 c6 d5 d5' d6 d6' d6'' hx0e
    go_loopw [45] (fun i V => ∃ j : Nat, j ≤ n ∧ i = .int .i64 (j : Int) ∧ Hid (Below W2.heap.size W2 V)) (fun i _ => n - (intOf i).toNat)
    case atStart => exact ⟨0, Nat.zero_le _, rfl, Below.refl _ _⟩
    case round =>
      obtain ⟨j, hj, rfl, HB⟩ := hrel
      obtain ⟨V, hV⟩ : ∃ x, x = wr := ⟨_, rfl⟩
      subst hV
      by_cases hlt : j < n
      · have dj : (j : Int) < (n : Int) := by omega
        obtain ⟨x, hx⟩ : ∃ x, l[j]? = some x := ⟨l[j]'(by rw [HN.out]; exact hlt), List.getElem?_eq_getElem _⟩
        have hxe := HSP.out.1 x (List.mem_of_getElem? hx)
        obtain ⟨hxs, hxc⟩ := HSP.out.2.1 j x hx
        rw [Nat.zero_add] at hxc
        have hrp := HSP.out.2.2 x (List.mem_of_getElem? hx)
        obtain ⟨Ak, ck, hk1, hk2, hrd, hc⟩ := HLK.out j x hx
        obtain ⟨kl, hkl⟩ : ∃ z, x.kids.length = z := ⟨_, rfl⟩
        obtain ⟨tg, htg⟩ : ∃ t, strOfNums x.tag = t := ⟨_, rfl⟩
        obtain ⟨an, han⟩ : ∃ t, strOfNums x.anchor = t := ⟨_, rfl⟩
        obtain ⟨vl, hvl⟩ : ∃ t, strOfNums x.value = t := ⟨_, rfl⟩
        rw [hkl, ndC_spell x _ tg an vl htg han hvl] at hc
        obtain ⟨st, hst⟩ : ∃ z, x.st = z := ⟨_, rfl⟩
        obtain ⟨en, hen⟩ : ∃ z, x.en = z := ⟨_, rfl⟩
        obtain ⟨kd, hkd⟩ : ∃ z, x.kind = z := ⟨_, rfl⟩
        obtain ⟨sy, hsy⟩ : ∃ z, x.style = z := ⟨_, rfl⟩
        rw [hst, hen, hkd, hsy] at hc
        rw [hen] at hxe
        rw [hst, hen] at hxs hxc
        rw [hkl] at hk1
        have y0 := cell_keep HB.out (hc 0 _ rfl)
        have y1 := cell_keep HB.out (hc 1 _ rfl)
        have y2 := cell_keep HB.out (hc 2 _ rfl)
        have y3 := cell_keep HB.out (hc 3 _ rfl)
        have y4 := cell_keep HB.out (hc 4 _ rfl)
        have y5 := cell_keep HB.out (hc 5 _ rfl)
        have y6 := cell_keep HB.out (hc 6 _ rfl)
        have y7 := cell_keep HB.out (hc 7 _ rfl)
        have y8 := cell_keep HB.out (hc 8 _ rfl)
        have y9 := cell_keep HB.out (hc 9 _ rfl)
        simp only [Nat.add_zero] at y0
        have HX := Lib.hid (And.intro hx (And.intro hxc (And.intro hrp hrd)))
        have HXL := Lib.hid (And.intro htg (And.intro han (And.intro hvl (And.intro hst (And.intro hen (And.intro hkd (And.intro hsy hkl)))))))
        clear hx hxc hrp hrd hc htg han hvl hst hen hkd hsy hkl
        go_upto_region 11 with fail
        obtain ⟨V1, hV1⟩ : ∃ z, V.alloc (.cells #[.int .i64 kd, .int .i64 sy, .string tg, .string an, .string vl, .int .i64 (st : Int), .int .i64 (en : Int), .int .i64 (x.hd : Int), .int .i64 (x.mr : Int), .slice Ak kl ck] 34) = z := ⟨_, rfl⟩
        obtain ⟨gx, hgx⟩ : ∃ z, V.heap.size = z := ⟨_, rfl⟩
        have hb1' : Below V.heap.size V V1 := by rw [← hV1]; exact (Below.refl _ _).alloc (Nat.le_refl _) _
        have HBX : Hid (V1.heap[gx]? = some (.cells #[.int .i64 kd, .int .i64 sy, .string tg, .string an, .string vl, .int .i64 (st : Int), .int .i64 (en : Int), .int .i64 (x.hd : Int), .int .i64 (x.mr : Int), .slice Ak kl ck] 34)) := by show _ = _; rw [← hV1, ← hgx]; exact heap_alloc_new V _
        rw [hV1, hgx]
        have HBV := Lib.hid (below_step HB.out hb1')
        clear hV1 hgx hb1' y0 y1 y2 y3 y4 y5 y6 y7 y8 y9 HB
        have HXC : Hid (∀ U, Below V1.heap.size V1 U → ∀ (i : Nat) (u : Value), #[Value.int .i64 kd, .int .i64 sy, .string tg, .string an, .string vl, .int .i64 (st : Int), .int .i64 (en : Int), .int .i64 (x.hd : Int), .int .i64 (x.mr : Int), .slice Ak kl ck][i]? = some u → U.cell? ⟨gx, i, none⟩ = some u) := fun U hU i u hu => by
          refine cell_keep hU ?_
          have h := HBX.out
          simp only [World.cell?, h]
          simpa using hu
        have z5 := HXC.out V1 (Below.refl _ _) 5 _ rfl
        have z6 := HXC.out V1 (Below.refl _ _) 6 _ rfl
        have z9 := HXC.out V1 (Below.refl _ _) 9 _ rfl
        have d5 : ¬ (st : Int) < 0 := by omega
        have d5' : decide ((st : Int) < 0) = false := decide_eq_false d5
        have d6 : ¬ (en : Int) < (st : Int) := by omega
        have d6' : decide ((en : Int) < (st : Int)) = false := decide_eq_false d6
        have d6'' : decide (en < st) = false := decide_eq_false (by omega)
        have d7 : ¬ (sn : Int) < (en : Int) := by omega
        have d7' : decide ((sn : Int) < (en : Int)) = false := decide_eq_false d7
        have d7'' : decide (sn < en) = false := decide_eq_false (by omega)
        go_wp2_with fail
        clear z5 z6 z9 d5 d5' d6 d6' d6'' d7 d7' d7''
        go_loopw [8, 74] (fun la q U => ∃ k lst : Nat, k ≤ kl ∧ la = .int .i64 (lst : Int) ∧ q = .int .i64 (k : Int) ∧ Hid (Chn (lkp 0 l) j en lst (x.kids.drop k) ∧ Below V1.heap.size V1 U)) (fun _ q _ => kl - (intOf q).toNat)
        case atStart => exact ⟨0, st, Nat.zero_le _, rfl, rfl, HX.out.2.1, Below.refl _ _⟩
        case round =>
          obtain ⟨k, la, hk, rfl, rfl, HQ⟩ := hrel
          obtain ⟨U, hU⟩ : ∃ x, x = wr := ⟨_, rfl⟩
          subst hU
          by_cases hkt : k < kl
          · have dk : (k : Int) < (kl : Int) := by omega
            have hkl := HXL.out.2.2.2.2.2.2.2
            obtain ⟨z, hz⟩ : ∃ z, x.kids[k]? = some z := ⟨x.kids[k]'(by rw [hkl]; exact hkt), List.getElem?_eq_getElem _⟩
            have hdrop : x.kids.drop k = z :: x.kids.drop (k + 1) := by
              rw [List.drop_eq_getElem_cons (by rw [hkl]; exact hkt)]
              rw [List.getElem?_eq_getElem (by rw [hkl]; exact hkt)] at hz
              injection hz with hz
              rw [hz]
            have hch := HQ.out.1
            rw [hdrop] at hch
            obtain ⟨y, q1, q2, q3, q4, q5, q6⟩ := chn_look hch
            rw [HN.out] at q2
            obtain ⟨bk, ok, rfl, hkc⟩ := HX.out.2.2.2.addr (by rw [kidC, List.length_map, hkl]; omega)
            have hBU : Below W2.heap.size W2 U := below_step HBV.out HQ.out.2
            have ckk : U.cell? ⟨bk, ok + k, none⟩ = some (.int .i64 (z : Int)) := cell_keep hBU (hkc k _ (by unfold kidC; rw [List.getElem?_map, hz]; rfl))
            obtain ⟨Bk, dk2, _, _, _, hc⟩ := HLK.out z y q3
            obtain ⟨tg2, htg2⟩ : ∃ t, strOfNums y.tag = t := ⟨_, rfl⟩
            obtain ⟨an2, han2⟩ : ∃ t, strOfNums y.anchor = t := ⟨_, rfl⟩
            obtain ⟨vl2, hvl2⟩ : ∃ t, strOfNums y.value = t := ⟨_, rfl⟩
            obtain ⟨m2, hm2⟩ : ∃ m, y.kids.length = m := ⟨_, rfl⟩
            have hys := (HSP.out.2.1 z y q3).1
            rw [hm2, ndC_spell y _ tg2 an2 vl2 htg2 han2 hvl2] at hc
            obtain ⟨st2, hst2⟩ : ∃ z, y.st = z := ⟨_, rfl⟩
            obtain ⟨en2, hen2⟩ : ∃ z, y.en = z := ⟨_, rfl⟩
            obtain ⟨kd2, hkd2⟩ : ∃ z, y.kind = z := ⟨_, rfl⟩
            obtain ⟨sy2, hsy2⟩ : ∃ z, y.style = z := ⟨_, rfl⟩
            obtain ⟨hd2, hhd2⟩ : ∃ z, y.hd = z := ⟨_, rfl⟩
            obtain ⟨mr2, hmr2⟩ : ∃ z, y.mr = z := ⟨_, rfl⟩
            rw [hst2, hen2, hkd2, hsy2, hhd2, hmr2] at hc
            rw [hst2, hen2] at hys
            rw [hst2] at q4
            rw [hen2] at q5 q6
            have y0 := cell_keep hBU (hc 0 _ rfl)
            have y1 := cell_keep hBU (hc 1 _ rfl)
            have y2 := cell_keep hBU (hc 2 _ rfl)
            have y3 := cell_keep hBU (hc 3 _ rfl)
            have y4 := cell_keep hBU (hc 4 _ rfl)
            have y5 := cell_keep hBU (hc 5 _ rfl)
            have y6 := cell_keep hBU (hc 6 _ rfl)
            have y7 := cell_keep hBU (hc 7 _ rfl)
            have y8 := cell_keep hBU (hc 8 _ rfl)
            have y9 := cell_keep hBU (hc 9 _ rfl)
            simp only [Nat.add_zero] at y0
            have z6 := HXC.out U HQ.out.2 6 _ rfl
            have HCH := Lib.hid q6
            have e1 : ¬ (z : Int) ≤ (j : Int) := by omega
            have e1' : decide ((z : Int) ≤ (j : Int)) = false := decide_eq_false e1
            have e1'' : decide (z ≤ j) = false := decide_eq_false (by omega)
            have e2 : ¬ (n : Int) ≤ (z : Int) := by omega
            have e2' : decide ((n : Int) ≤ (z : Int)) = false := decide_eq_false e2
            have e2'' : decide (n ≤ z) = false := decide_eq_false (by omega)
            have dz : (z : Int) < (n : Int) := by omega
            have e3 : ¬ (st2 : Int) < (la : Int) := by omega
            have e3' : decide ((st2 : Int) < (la : Int)) = false := decide_eq_false e3
            have e3'' : decide (st2 < la) = false := decide_eq_false (by omega)
            have e4 : ¬ (en2 : Int) < (st2 : Int) := by omega
            have e4' : decide ((en2 : Int) < (st2 : Int)) = false := decide_eq_false e4
            have e4'' : decide (en2 < st2) = false := decide_eq_false (by omega)
            have e5 : ¬ (en : Int) < (en2 : Int) := by omega
            have e5' : decide ((en : Int) < (en2 : Int)) = false := decide_eq_false e5
            have e5'' : decide (en < en2) = false := decide_eq_false (by omega)
            clear hz hdrop hch q3 q6 hkc hc htg2 han2 hvl2 hm2 hst2 hen2 hkd2 hsy2 hhd2 hmr2 hkl
            go_upto_region 20 with fail
            obtain ⟨U1, hU1⟩ : ∃ z, U.alloc (.cells #[.int .i64 kd2, .int .i64 sy2, .string tg2, .string an2, .string vl2, .int .i64 (st2 : Int), .int .i64 (en2 : Int), .int .i64 (hd2 : Int), .int .i64 (mr2 : Int), .slice Bk m2 dk2] 34) = z := ⟨_, rfl⟩
            obtain ⟨gy, hgy⟩ : ∃ z, U.heap.size = z := ⟨_, rfl⟩
            have hb2' : Below U.heap.size U U1 := by rw [← hU1]; exact (Below.refl _ _).alloc (Nat.le_refl _) _
            have t5 : U1.cell? ⟨gy, 5, none⟩ = some (.int .i64 (st2 : Int)) := by rw [← hU1, ← hgy, World.cell?_alloc_mark]; rfl
            have t6 : U1.cell? ⟨gy, 6, none⟩ = some (.int .i64 (en2 : Int)) := by rw [← hU1, ← hgy, World.cell?_alloc_mark]; rfl
            have z6' := cell_keep hb2' z6
            rw [hU1, hgy]
            have HBU := Lib.hid (below_step HQ.out.2 hb2')
            clear hU1 hgy hb2' y0 y1 y2 y3 y4 y5 y6 y7 y8 y9 z6 hBU ckk HQ
            go_wp2_with fail
            go_roundw
            case rel =>
              first
              | exact ⟨k + 1, en2, by omega, rfl, by go_num, HCH.out, HBU.out⟩
              | (repeat apply Exists.intro
                 exact ⟨⟨k + 1, en2, by omega, rfl, by go_num, HCH.out, HBU.out⟩, rfl⟩)
            case measure => simp [intOf]; omega
          · obtain rfl : k = kl := by omega
            have hBU : Below W2.heap.size W2 U := below_step HBV.out HQ.out.2
            have HBU := Lib.hid hBU
            have z0 := HXC.out U HQ.out.2 0 _ rfl
            have z1 := HXC.out U HQ.out.2 1 _ rfl
            have z2 := HXC.out U HQ.out.2 2 _ rfl
            have z3 := HXC.out U HQ.out.2 3 _ rfl
            have z4 := HXC.out U HQ.out.2 4 _ rfl
            have z5 := HXC.out U HQ.out.2 5 _ rfl
            have z6 := HXC.out U HQ.out.2 6 _ rfl
            clear hBU
            by_cases hk1' : kd = 1
            · subst hk1'
              obtain ⟨r1, r2, zz, r3, r4, r5, r6, r7, r8⟩ := HX.out.2.2.1 HXL.out.2.2.2.2.2.1
              obtain ⟨htg, han, hvl, hst, hen, hkd, hsy, hkl⟩ := HXL.out
              rw [hst] at r1 r3
              rw [hen] at r1 r2 r3
              rw [hsy] at r5
              have r6' : strOfNums zz.tag = tg := by rw [r6, htg]
              have r7' : strOfNums zz.value = vl := by rw [r7, hvl]
              have r8' : strOfNums zz.anchor = an := by rw [r8, han]
              rw [← byt_extract] at r3
              obtain ⟨u, hu⟩ : ∃ u, s.extract st en = u := ⟨_, rfl⟩
              rw [hu] at r3
              have hus : u.size ≤ s.size := by rw [← hu, ByteArray.size_extract]; omega
              have HSZ := Lib.hid HSN.out
              have hen2 : (en : Int) ≤ (s.size : Int) := by have := HSN.out; omega
              have hst2 : (st : Int) ≤ (en : Int) := by omega
              have run1 : ∀ V, (Instr.slice 9 (.string s) (some (.int .i64 (st : Int))) (some (.int .i64 (en : Int))) none).run Tryz.prog V = .ok (.string u) V := by
                intro V
                rw [← hu]
                simp [go_sem, hen2, hst2]
              have hwU : Below w.heap.size w U := below_step HB2.out HBU.out
              have C := Lib.hid (parse_at (Below.refl U.heap.size U) (HS.out.below hwU) (HM.out.below hwU) u (by omega) true _ r3)
              clear hwU
              have HZZ := Lib.hid (And.intro r4 (And.intro r5 (And.intro r6' (And.intro r7' r8'))))
              clear r1 r2 r3 r4 r5 r6 r7 r8 r6' r7' r8' htg han hvl hst hen hkd hsy hkl hu HSZ
              go_wp2_with fail
              refine C.out.mono ?_
              clear C
              rintro e U2 ⟨v5, rfl, hL5, hb5⟩
              obtain ⟨g5, cap5, rfl, hq1, hq2, hlk5⟩ := hL5.look (by simp)
              have m0 := hlk5 0 zz 0 _ rfl (by omega) rfl
              have m1 := hlk5 0 zz 1 _ rfl (by omega) rfl
              have m2 := hlk5 0 zz 2 _ rfl (by omega) rfl
              have m3 := hlk5 0 zz 3 _ rfl (by omega) rfl
              have m4 := hlk5 0 zz 4 _ rfl (by omega) rfl
              simp only [Nat.zero_mul, Nat.zero_add] at m0 m1 m2 m3 m4
              rw [HZZ.out.1] at m0
              rw [HZZ.out.2.1] at m1
              rw [HZZ.out.2.2.1] at m2
              rw [HZZ.out.2.2.2.2] at m3
              rw [HZZ.out.2.2.2.1] at m4
              have z0' := cell_keep hb5 z0
              have z1' := cell_keep hb5 z1
              have z2' := cell_keep hb5 z2
              have z3' := cell_keep hb5 z3
              have z4' := cell_keep hb5 z4
              have HBE := Lib.hid (below_step HBU.out hb5)
              have hi : (0 : Int) < 1 := by omega
              clear z0 z1 z2 z3 z4 z5 z6 hb5 hL5 hlk5 HZZ
              go_upto_region 26 with fail
              go_quiet (fail)
              go_wp2_with fail
              go_roundw
              case rel =>
                first
                | exact ⟨j + 1, by omega, by go_num, below_draws HBE.out _⟩
                | (repeat apply Exists.intro
                   exact ⟨⟨j + 1, by omega, by go_num, below_draws HBE.out _⟩, rfl⟩)
              case measure => simp [intOf]; omega
            · have hk1n : (kd != 1) = true := bne_iff_ne.2 hk1'
              go_wp2_with fail
              go_roundw
              case rel =>
                first
                | exact ⟨j + 1, by omega, by go_num, HBU.out⟩
                | (repeat apply Exists.intro
                   exact ⟨⟨j + 1, by omega, by go_num, HBU.out⟩, rfl⟩)
              case measure => simp [intOf]; omega
      · obtain rfl : j = n := by omega
        have HBW := Lib.hid (below_step HB2.out HB.out)
        go_wp2_with fail
        refine (wakes_at HBW.out HS.out HM.out).mono ?_
        rintro e W9 ⟨rfl, hb9⟩
        have HB9 := Lib.hid hb9
        clear hb9
        go_wp2_with fail
        go_ret
        exact ⟨rfl, HB9.out⟩


set_option maxRecDepth 100000 in
theorem lifted (os : Os) (started : os.Started) (H : Type) (enc : TypeId × Value → H) :
    ReturnsInHanded {} Tryz.checked os 5 .any (fun w args => (Rows.inlineSpansSpec.pre enc Tryz.prog Tryz.f5 Rows.inlineSpansRow.domain false w args ∧ laidMetH Tryz.prog Rows.inlineSpansRow.laid w) ∧ sizedMet enc Tryz.prog Tryz.f5 (OpenSpec.ofChange Rows.inlineSpansSpec) false w args)
      (Rows.inlineSpansSpec.post enc Tryz.prog Tryz.f5 false true false false) := by
  refine returns_listed (C := Tryz.checked) (X := fun w _ => laidMetH Tryz.prog Rows.inlineSpansRow.laid w) (fun _ _ _ hh h => h.of_heap hh) own started (by kernel_rfl) Tryz.func5
    (ChangeSpec.witness_shaped (enc := enc) (C := Tryz.checked) (os := os) (X := fun w _ => laidMetH Tryz.prog Rows.inlineSpansRow.laid w) false (World.laidAll Tryz.prog os Rows.inlineSpansRow.laid) #[.agg #[.slice none 0 0, .slice none 0 0]] 8 (World.laidAll_os _ _ _)
      (World.shaped_of_ZipB (by kernel_rfl) (by kernel_rfl)) (by kernel_rfl) (by kernel_rfl) (by kernel_rfl)
      (by rw [MakeChecks.laidMetH_plain _ _ _ (by kernel_rfl)]; exact laidMet_laidAll _ (by kernel_rfl) (by kernel_rfl))) ?_
  intro W base args ds gs before hval0 hW hX hsh
  have hval : ∀ (j : Nat) t v, Tryz.f5.params[j]? = some t → args[j]? = some v → Value.okWide Tryz.prog W .any base t v := hval0
  have hW' := hW
  obtain ⟨p, q, hA0, hV, rfl, hfz, hnd⟩ := hW
  have hA : DataW.TrodAll enc Tryz.prog W 0 (fun _ => true) true Tryz.f5.params.toList args.toList ds p := hA0
  rw [Tryz.params5] at hA hval
  obtain ⟨v0, vs0, d0, ds0, p0, q0, hargs, rfl, rfl, h0, r0⟩ := trodAll_cons hA
  obtain ⟨rfl, rfl, rfl⟩ := trodAll_nil r0
  obtain rfl : args = #[v0] := by cases args; simp_all
  obtain ⟨rfl, rfl⟩ := trodVars_none hV
  have k0 := h0
  have lt0 : ∀ x ∈ p0, x.block < W.heap.size := by obtain ⟨m, hm⟩ := k0; exact DataW.trod_lt m _ _ _ hm
  have w0 := open_plan (hval 0 25 v0 rfl rfl) h0
  clear hA0 hval0
  refine (walk v0 W w0 (⟨shorts_in hX (by kernel_rfl) (List.mem_of_getElem? (i := 1) rfl), maxL_shaped hsh⟩)).mono fun e W' ⟨he, bel⟩ => ?_
  subst he
  exact ⟨_, rfl, _, _, _, [], _, [], hW', trodAll_mk1 (shut_bool Tryz.underlying4 _), (trodAll_cons_mk (Below.trod laidOut (by kernel_rfl) (of_decide_eq_true (by kernel_rfl)) k0 bel lt0) trodAll_mk0), rfl, bel.frame _, fun h => by cases h⟩

theorem over : Rows.inlineSpansRow.holds Tryz.pinned (OpenSpec.ofChange Rows.inlineSpansSpec) :=
  OpenClaim.holds_of_wide 5 Tryz.f5 rfl rfl rfl rfl rfl rfl rfl ⟨rfl, rfl, rfl, rfl, rfl⟩ rfl rfl rfl rfl rfl (by kernel_rfl) Tryz.func5 (by kernel_rfl)
    (of_decide_eq_true (by kernel_rfl)) (by unfold Func.isWrapper; first | (rw [if_pos (by decide +kernel)]; kernel_rfl) | (rw [if_neg (by decide +kernel)]; exact ⟨rfl, rfl⟩))
    (fun os started H enc _ => lifted os started H enc)

theorem proved : Rows.InlineSpansCardSaid :=
  Claim7.holds_tied_plain_at .later [] [.data, .data, .pinned] true (true, "5386a357bab227d37026cd594ddba446b339da503d7c645c7399ba97084ed683") false over (fun _ h => by cases h) (by kernel_rfl) (fun _ h => by cases h) inlineSpans_row_tie rfl ⟨rfl, rfl⟩ (by kernel_rfl) rfl
    (fun f fn hf hfn => by
      obtain rfl : f = 5 := Option.some.inj ((show Tryz.prog.funcNamed Rows.inlineSpansRow.func = some 5 by kernel_rfl).symm.trans hf) |>.symm
      obtain rfl : fn = Tryz.f5 := (Option.some.inj (Tryz.func5.symm.trans hfn)).symm
      exact ⟨by kernel_rfl, fun j t ht => by
        rw [Tryz.params5] at ht
        have hm : t ∈ [25] := by simpa using Array.mem_of_getElem? ht
        have hall : ([25].all fun u => !Tryz.prog.wantsStandIn u) = true := by kernel_rfl
        exact (show Tryz.prog.wantsStandIn t = false by simpa using List.all_eq_true.1 hall t hm)⟩)
    (by kernel_rfl)
#print axioms proved
end Go.Proofs.YtocjegmacpmpoaaGreatDoor.inlineSpans
