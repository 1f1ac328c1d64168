/-
  Proved: the card of the law 'scholium/scholiumlaw12.InlineParts' (for every input it returns true, and every argument reads as it did before; the package variables that the row lists are tied to the program's text). No conditions.
-/
import Derived.Test.YtocjegmacpmpoaaGreatDoorRows
import Derived.Test.YtocjegmacpmpoaaGreatDoorCards
import Derived.Test.YtocjegmacpmpoaaGreatDoorTie
import Derived.Test.YtocjegmacpmpoaaGreatDoorDoor
import Derived.Test.YtocjegmacpmpoaaGreatDoorMC
import Derived.Test.YtocjegmacpmpoaaGreatDoorMH
import Derived.Test.YtocjegmacpmpoaaGreatDoorMA
import Derived.Test.YtocjegmacpmpoaaGreatDoorMI
import Derived.Test.YtocjegmacpmpoaaGreatDoorMN
import Derived.WalkKit
import Derived.ProofKit
import Derived.OpenShut
import Derived.ShutString
import Derived.ChangeOld
import Derived.Below
import Derived.LaidMore
import Derived.Lay
import Derived.SevenTiedAt
namespace Go.Proofs.YtocjegmacpmpoaaGreatDoor.inlineParts
open Go.ChangeShapes Go.WideShapes Go.ChangeAt Go.RowKit
open Go.ChangeMaps (open_string shut_string)
set_option linter.unusedVariables false

theorem own : ownKnob Tryz.prog.godebug = none := by kernel_rfl
theorem laidOut : laidOutB Tryz.prog = true := by kernel_rfl

/-- A slice of integers that came in. -/
def IsRow (k : IntKind) (w : World) (a : Option Addr) (len cap : Nat) (zs : List Int) : Prop :=
  (a = none ∧ len = 0 ∧ cap = 0 ∧ zs = []) ∨
  ∃ x, a = some x ∧ len ≤ cap ∧ cap ≤ maxLen ∧ zs.length = cap ∧ (∀ i, i < zs.length → w.cell? (x.add i) = some (.int k (zs.getD i 0))) ∧ ∀ n ∈ zs, (Lit.int k n).wf = true

set_option linter.unusedSimpArgs false
/-- A list of nodes looked at: its Kids, too. -/
theorem listP_looks {W : World} {v : Value} {l : List Nd} (h : ListP W v l) (h0 : 0 < l.length) : ∃ g cap, v = .slice (some ⟨g, 0, none⟩) l.length cap ∧ l.length ≤ cap ∧ cap ≤ 9223372036854775807 ∧ ∀ (i : Nat) (x : Nd), l[i]? = some x →
    ∃ A c, x.kids.length ≤ c ∧ c ≤ 9223372036854775807 ∧ RdC W A (kidC x.kids) ∧ ∀ (j : Nat) (u : Value), (ndC (x, .slice A x.kids.length c))[j]? = some u → W.cell? ⟨g, i * 10 + j, none⟩ = some u := by
  obtain ⟨B, P, hn, rfl⟩ := h
  have hl : (lst P).length = P.length := by simp [lst]
  rw [hl] at h0 ⊢
  obtain ⟨g, cap, rfl, h1, h2, h3, h4⟩ := hn.form h0
  refine ⟨g, cap, rfl, h1, h2, ?_⟩
  intro i x hi
  obtain ⟨p, hp, rfl⟩ : ∃ p, P[i]? = some p ∧ p.1 = x := by
    simp only [lst, List.getElem?_map, Option.map_eq_some_iff] at hi
    exact hi
  have hk := hn.kid i p hp
  obtain ⟨A, c, e, hc1, hc2, _⟩ := own_form hk
  refine ⟨A, c, hc1, hc2, ?_, fun j u hu => hn.cell hp j u (by rw [← hu, ← e])⟩
  rw [e] at hk
  exact RdC.own hk
theorem ndC_spell (x : Nd) (kv : Value) (tg an vl : ByteArray) (h1 : strOfNums x.tag = tg) (h2 : strOfNums x.anchor = an) (h3 : strOfNums x.value = vl) :
    ndC (x, kv) = [.int .i64 x.kind, .int .i64 x.style, .string tg, .string an, .string vl, .int .i64 (x.st : Int), .int .i64 (x.en : Int), .int .i64 (x.hd : Int), .int .i64 (x.mr : Int), kv] := by
  subst h1 h2 h3; rfl
theorem planIn_below {w W : World} {A1 A2 : Option Addr} {n1 c1 n2 c2 : Nat} (h : PlanIn w A1 n1 c1 A2 n2 c2) (hb : Below w.heap.size w W) : PlanIn W A1 n1 c1 A2 n2 c2 := by
  refine ⟨fun h0 => ?_, fun h0 => ?_, h.le1, h.max1, h.le2, h.max2⟩
  · obtain ⟨b, off, e, hk⟩ := h.num h0
    exact ⟨b, off, e, fun k hk' => by obtain ⟨z, hz, hc⟩ := hk k hk'; exact ⟨z, cell_keep hb hz, hc⟩⟩
  · obtain ⟨b, off, e, hk⟩ := h.txt h0
    exact ⟨b, off, e, fun k hk' => by obtain ⟨z, hz, hc⟩ := hk k hk'; exact ⟨z, cell_keep hb hz, hc⟩⟩
theorem parse_len {b : List Int} {fl : Bool} {l : List Nd} (h : inParse b fl = .ok l) : l.length ≤ 65537 := by
  unfold inParse at h
  split at h
  · rename_i ht
    have hlen : b.length ≤ 65536 := by
      unfold inText at ht
      simp only [Bool.and_eq_true, beq_iff_eq] at ht
      exact chk_y b ht.1
    cases hn : inNode 64 b fl 0 0 with
    | error e => rw [hn] at h; cases h
    | ok y =>
      obtain ⟨l', n⟩ := y
      rw [hn] at h
      dsimp only at h
      split at h
      · cases h
      · simp only [Except.ok.injEq] at h
        subst h
        have hz := node_size b 64 fl 0 0 _ _ (Nat.zero_le _) hn
        have h1 := hz.2.1
        have h2 := hz.2.2.2.1
        omega
  · cases h
theorem parse_ens {b : List Int} {fl : Bool} {l : List Nd} (h : inParse b fl = .ok l) : ∀ y ∈ l, y.st ≤ y.en ∧ y.en ≤ 65536 := by
  unfold inParse at h
  split at h
  · rename_i ht
    have hlen : b.length ≤ 65536 := by
      unfold inText at ht
      simp only [Bool.and_eq_true, beq_iff_eq] at ht
      exact chk_y b ht.1
    cases hn : inNode 64 b fl 0 0 with
    | error e => rw [hn] at h; cases h
    | ok y =>
      obtain ⟨l', n⟩ := y
      rw [hn] at h
      dsimp only at h
      split at h
      · cases h
      · simp only [Except.ok.injEq] at h
        subst h
        have hz := (node_size b 64 fl 0 0 _ _ (Nat.zero_le _) hn).2.1
        obtain ⟨_, s2, s3, _⟩ := node_sp b 64 fl 0 0 _ _ hn
        intro y hy
        obtain ⟨i, hi⟩ := List.mem_iff_getElem?.1 hy
        have := s2 y hy
        exact ⟨(s3 i y hi).1, by omega⟩
  · cases h
/-- Either way of a parse. -/
theorem parse_way {w W' : World} {r : Except Int (List Nd)} {e : Ending} (h : ParP w r e W') : ∃ v l q, e = .returned (.tuple #[v, .int .i64 q]) ∧ ListP W' v l ∧ Below w.heap.size w W' ∧ (q = 0 → r = .ok l) := by
  cases r with
  | error q =>
    obtain ⟨rfl, hb, hq⟩ := h
    exact ⟨_, [], q, rfl, ⟨0, [], Nds.nil _ _, rfl⟩, hb, fun e => absurd e hq⟩
  | ok l =>
    obtain ⟨v, rfl, hL, hb⟩ := h
    exact ⟨v, l, 0, rfl, hL, hb, fun _ => rfl⟩
set_option maxHeartbeats 8000000 in
set_option maxRecDepth 100000 in
theorem walk (a0 : Value) (a1 : Value) (w : World) (w0 : IsPlan w a0) (w1 : IsPlan w a1) (hSM : Shorts w ∧ MaxL w) :
    Calls Tryz.prog 3 #[a0, a1] w fun e w' => e = .returned (.bool true) ∧ Below w.heap.size w w' := by
  obtain ⟨A1, n1, c1, A2, n2, c2, rfl, hp⟩ := w0
  obtain ⟨A3, n3, c3, A4, n4, c4, rfl, hq⟩ := w1
  have HS := Lib.hid hSM.1
  have HM := Lib.hid hSM.2
  have HP := Lib.hid hp
  have HQ := Lib.hid hq
  have h48 : pySz 4 ≤ 30000 := by decide
  clear hSM hp hq
  go_enter Tryz.func3, Tryz.ntmps3
  go_upto_region 1 with fail
  obtain ⟨Wa, hWa⟩ : ∃ z, w.alloc (.cells #[.slice A1 n1 c1, .slice A2 n2 c2] 25) = z := ⟨_, rfl⟩
  obtain ⟨g1, hg1⟩ : ∃ z, w.heap.size = z := ⟨_, rfl⟩
  have hsa : Wa.heap.size = g1 + 1 := by rw [← hWa, ← hg1]; simp
  have hba : Below w.heap.size w Wa := by rw [← hWa]; exact (Below.refl _ _).alloc (Nat.le_refl _) _
  have p0 : Wa.cell? ⟨g1, 0, none⟩ = some (.slice A1 n1 c1) := by rw [← hWa, ← hg1, World.cell?_alloc_mark]; rfl
  have p1 : Wa.cell? ⟨g1, 1, none⟩ = some (.slice A2 n2 c2) := by rw [← hWa, ← hg1, World.cell?_alloc_mark]; rfl
  rw [hWa, hg1]
  obtain ⟨g2, hg2⟩ : ∃ z, g1 + 1 = z := ⟨_, rfl⟩
  rw [hg2]
  rw [hg2] at hsa
  obtain ⟨W0, hW0⟩ : ∃ z, Wa.alloc (.cells #[.slice A3 n3 c3, .slice A4 n4 c4] 25) = z := ⟨_, rfl⟩
  have hb0 : Below Wa.heap.size Wa W0 := by rw [← hW0]; exact (Below.refl _ _).alloc (Nat.le_refl _) _
  have q0 : W0.cell? ⟨g2, 0, none⟩ = some (.slice A3 n3 c3) := by rw [← hW0, ← hsa, World.cell?_alloc_mark]; rfl
  have q1 : W0.cell? ⟨g2, 1, none⟩ = some (.slice A4 n4 c4) := by rw [← hW0, ← hsa, World.cell?_alloc_mark]; rfl
  have p0' := cell_keep hb0 p0
  have p1' := cell_keep hb0 p1
  rw [hW0]
  have HB0 : Hid (Below w.heap.size w W0) := below_step hba hb0
  have HP1 := Lib.hid (planIn_below HP.out HB0.out)
  have HP2 := Lib.hid (planIn_below HQ.out HB0.out)
  have HK : Hid (∀ U, Below W0.heap.size W0 U → U.cell? ⟨g1, 0, none⟩ = some (.slice A1 n1 c1) ∧ U.cell? ⟨g1, 1, none⟩ = some (.slice A2 n2 c2) ∧ U.cell? ⟨g2, 0, none⟩ = some (.slice A3 n3 c3) ∧ U.cell? ⟨g2, 1, none⟩ = some (.slice A4 n4 c4)) := fun U hU => ⟨cell_keep hU p0', cell_keep hU p1', cell_keep hU q0, cell_keep hU q1⟩
  clear hWa hg1 hsa hba p0 p1 hg2 hW0 hb0 q0 q1 p0' p1' HP HQ
  go_region_held3 (fun U => U.cell? ⟨g1, 0, none⟩ = some (.slice A1 n1 c1) ∧ U.cell? ⟨g1, 1, none⟩ = some (.slice A2 n2 c2) ∧ U.cell? ⟨g2, 0, none⟩ = some (.slice A3 n3 c3) ∧ U.cell? ⟨g2, 1, none⟩ = some (.slice A4 n4 c4))
    (first | exact HK.out _ (Below.refl _ _) | exact HK.out _ (Below.refl _ _).drew | exact HK.out _ HQ1.out | exact HK.out _ HQ2.out | exact HK.out _ HQ1.out.drew | exact HK.out _ HQ2.out.drew)
    (first
      | (go_at_call 6; refine (play_at HP1.out (Below.refl _ _).drew).mono ?_; rintro e U1 ⟨a, ha, rfl, hb⟩; have HQ1 := Lib.hid hb; have HA := Lib.hid ha; clear hb ha)
      | (go_at_call 6; refine (play_at HP2.out HQ1.out).mono ?_; rintro e U2 ⟨b, ha, rfl, hb⟩; have HQ2 := Lib.hid hb; have HBT := Lib.hid ha; clear hb ha))
  have haz : a.size ≤ 30000 := by have := pyN_len 4 _ HA.out; rw [byt_len] at this; omega
  have hbz : b.size ≤ 30000 := by have := pyN_len 4 _ HBT.out; rw [byt_len] at this; omega
  have HBU : Hid (Below w.heap.size w U2) := below_step HB0.out HQ2.out
  clear h48 HK HQ1 HQ2 HP1 HP2 HB0
  obtain ⟨r1, hr1⟩ : ∃ r, inParse (byt a) true = r := ⟨_, rfl⟩
  obtain ⟨r2, hr2⟩ : ∃ r, inParse (byt b) true = r := ⟨_, rfl⟩
  have HR1 := Lib.hid hr1
  have HR2 := Lib.hid hr2
  clear hr1 hr2
  go_wp2_with fail
  refine (parse_at HBU.out HS.out HM.out a (by omega) true r1 HR1.out).mono ?_
  intro e U3 h3
  obtain ⟨v1, l, x1, rfl, hL1, hb3, hw1⟩ := parse_way h3
  have HL1 := Lib.hid hL1
  have HB3 := Lib.hid hb3
  have HW1 := Lib.hid hw1
  clear h3 hL1 hb3 hw1 HBU
  go_wp2_with fail
  refine (parse_at (Below.refl U3.heap.size U3) (HS.out.below HB3.out) (HM.out.below HB3.out) b (by omega) true r2 HR2.out).mono ?_
  intro e U4 h4
  obtain ⟨v2, m, x2, rfl, hL2, hb4, hw2⟩ := parse_way h4
  have HL2 := Lib.hid hL2
  have HB4 := Lib.hid (below_step HB3.out hb4)
  have HB34 := Lib.hid hb4
  have HW2 := Lib.hid hw2
  clear h4 hL2 hb4 hw2
  by_cases hx1 : x1 = 0
  · by_cases hx2 : x2 = 0
    · subst hx1 hx2
      have e1 : inParse (byt a) true = .ok l := HR1.out.trans (HW1.out rfl)
      have e2 : inParse (byt b) true = .ok m := HR2.out.trans (HW2.out rfl)
      obtain ⟨hall, ht1, ht2, hl0, hm0⟩ := parts_all HA.out HBT.out e1 e2
      obtain ⟨gl, cl, rfl, hl1, hl2, hlook1⟩ := listP_looks (HL1.out.below HB34.out) hl0
      obtain ⟨gm, cm, rfl, hm1, hm2, hlook2⟩ := listP_looks HL2.out hm0
      obtain ⟨n, hn⟩ : ∃ n, l.length = n := ⟨_, rfl⟩
      obtain ⟨k, hk⟩ : ∃ k, m.length = k := ⟨_, rfl⟩
      rw [hn] at hl0 hl1 hall ⊢
      rw [hk] at hm0 hm1 ⊢
      have e1x := e1
      have e2x := e2
      have hps1 := parse_len e1
      have hps2 := parse_len e2
      rw [hn] at hps1
      rw [hk] at hps2
      have hazs := haz
      have hbzs := hbz
      obtain ⟨asz, has⟩ : ∃ z, a.size = z := ⟨_, rfl⟩
      obtain ⟨bsz, hbs⟩ : ∃ z, b.size = z := ⟨_, rfl⟩
      rw [has] at haz
      rw [hbs] at hbz
      rw [byt_len, byt_len, has, hbs] at hall
      have has' : (a.size : Int) = (asz : Int) := by omega
      obtain ⟨u1, hu1⟩ : ∃ u, (⟨#[91]⟩ : ByteArray) ++ a = u := ⟨_, rfl⟩
      obtain ⟨u2, hu2⟩ : ∃ u, u1 ++ (⟨#[32, 44, 32]⟩ : ByteArray) = u := ⟨_, rfl⟩
      obtain ⟨u3, hu3⟩ : ∃ u, u2 ++ b = u := ⟨_, rfl⟩
      obtain ⟨u4, hu4⟩ : ∃ u, u3 ++ (⟨#[32, 93]⟩ : ByteArray) = u := ⟨_, rfl⟩
      have b1 : byt u1 = [91] ++ byt a := by rw [← hu1, byt_append]; rfl
      have b2 : byt u2 = [91] ++ byt a ++ [32, 44, 32] := by rw [← hu2, byt_append, b1]; rfl
      have b3 : byt u3 = [91] ++ byt a ++ [32, 44, 32] ++ byt b := by rw [← hu3, byt_append, b2]
      have b4 : byt u4 = [91] ++ byt a ++ [32, 44, 32] ++ byt b ++ [32, 93] := by rw [← hu4, byt_append, b3]; rfl
      have z1 : u1.size ≤ 30001 := by rw [← byt_len, b1]; simp [byt_len]; omega
      have z2 : u2.size ≤ 30004 := by rw [← byt_len, b2]; simp [byt_len]; omega
      have z3 : u3.size ≤ 60004 := by rw [← byt_len, b3]; simp [byt_len]; omega
      have z4 : u4.size ≤ 60006 := by rw [← byt_len, b4]; simp [byt_len]; omega
      rw [← b4] at hall
      have HALL := Lib.hid hall
      have C1 := Lib.hid (fun (U : World) (hU : Below U4.heap.size U4 U) => depth_at (W := U) hn hl1 hl2 (fun i x hx => by obtain ⟨A, c, q1, q2, q3, q4⟩ := hlook1 i x hx; exact ⟨A, c, q1, q2, q3.below hU, fun j u hu => cell_keep hU (q4 j u hu)⟩) 4 0 (by omega) ht1)
      have C2 := Lib.hid (fun (U : World) (hU : Below U4.heap.size U4 U) => depth_at (W := U) hk hm1 hm2 (fun i x hx => by obtain ⟨A, c, q1, q2, q3, q4⟩ := hlook2 i x hx; exact ⟨A, c, q1, q2, q3.below hU, fun j u hu => cell_keep hU (q4 j u hu)⟩) 4 0 (by omega) ht2)
      have HLK1 := Lib.hid hlook1
      have HLK2 := Lib.hid hlook2
      have HN := Lib.hid (And.intro hn hk)
      clear hall e1 e2 hlook1 hlook2 ht1 ht2 b1 b2 b3 b4 hn hk HW1 HW2 HL1 HL2 HB34 HB3 has hbs
      go_wp2_with fail
      refine (parse_at (Below.refl U4.heap.size U4) (HS.out.below HB4.out) (HM.out.below HB4.out) u4 (by omega) true _ HALL.out).mono ?_
      rintro e U5 ⟨v3, rfl, hL3, hb5⟩
      obtain ⟨ga, ca, rfl, ha1, ha2, hlook3⟩ := listP_looks hL3 (by simp)
      obtain ⟨q1, hq1⟩ : ∃ q, 1 + n = q := ⟨_, rfl⟩
      obtain ⟨q2, hq2⟩ : ∃ q, q1 + k = q := ⟨_, rfl⟩
      have hq1z : (1 : Int) + (n : Int) = (q1 : Int) := by omega
      have hq2z : (q1 : Int) + (k : Int) = (q2 : Int) := by omega
      have hlen : ((⟨2, 7, inTag 2 7 [] [], [], [], 0, asz + bsz + 6, 0, 0, [1, n + 1]⟩ : Nd) :: (mvL 1 (sfL 1 l) ++ mvL (n + 1) (sfL (asz + 4) m))).length = q2 := by
        rw [List.length_cons, List.length_append, mvL_len, sfL_len, mvL_len, sfL_len, HN.out.1, HN.out.2]; omega
      rw [hlen] at ha1 ⊢
      obtain ⟨Ar, cr, k1, k2, k3, k4⟩ := hlook3 0 _ rfl
      have r9 := k4 9 _ rfl
      simp only [Nat.zero_mul, Nat.zero_add] at r9
      change _ = some (Value.slice Ar 2 cr) at r9
      obtain ⟨br, orr, rfl, hkc⟩ := k3.addr (by simp [kidC])
      have kc0 : U5.cell? ⟨br, orr, none⟩ = some (.int .i64 1) := hkc 0 _ rfl
      have kc1 : U5.cell? ⟨br, orr + 1, none⟩ = some (.int .i64 (q1 : Int)) := by
        have := hkc 1 _ rfl
        rw [this]
        congr 2
        omega
      have HLK3 := Lib.hid hlook3
      have HB5 := Lib.hid hb5
      have HBW := Lib.hid (below_step HB4.out hb5)
      have hk1' : 2 ≤ cr := k1
      have d2 : (0 : Int) < 2 := by omega
      have d3 : (1 : Int) < 2 := by omega
      have dq2 : (0 : Int) < (q2 : Int) := by omega
      have dq2n : ¬ q2 = 0 := by omega
      have E1 := Lib.hid (And.intro hq1 hq2)
      clear hL3 hlook3 hb5 hlen k3 k4 hkc HALL hu1 hu2 hu3 hu4 z1 z2 z3 z4 k1 hq1 hq2
      go_wp2_with fail
      refine (C1.out U5 HB5.out).mono ?_
      rintro e w' ⟨⟨d1, hd1, rfl⟩, rfl⟩
      have f1 : ¬ (64 : Int) ≤ (d1 : Int) := by omega
      have f1' : decide ((64 : Int) ≤ (d1 : Int)) = false := decide_eq_false f1
      have f1'' : decide (64 ≤ d1) = false := decide_eq_false (by omega)
      go_wp2_with fail
      refine (C2.out U5 HB5.out).mono ?_
      rintro e w' ⟨⟨d4, hd4, rfl⟩, rfl⟩
      have f2 : ¬ (64 : Int) ≤ (d4 : Int) := by omega
      have f2' : decide ((64 : Int) ≤ (d4 : Int)) = false := decide_eq_false f2
      have f2'' : decide (64 ≤ d4) = false := decide_eq_false (by omega)
      clear C1 C2
      go_wp2_with fail
      clear f1 f1' f1'' f2 f2' f2'' hd1 hd4 r9 kc0 kc1
      have HENl := Lib.hid (parse_ens e1x)
      have HENm := Lib.hid (parse_ens e2x)
      clear e1x e2x
      go_loopw [107] (fun i V => ∃ j : Nat, j ≤ n ∧ i = .int .i64 (j : Int) ∧ Hid (Below U5.heap.size U5 V)) (fun i _ => n - (intOf i).toNat)
      case atStart => exact ⟨0, Nat.zero_le _, rfl, Below.refl _ _⟩
      case round =>
        obtain ⟨j, hj, rfl, HB⟩ := hrel
        obtain ⟨V, hV⟩ : ∃ x, x = wr := ⟨_, rfl⟩
        subst hV
        by_cases hlt : j < n
        · skip
          obtain ⟨j1, hj1⟩ : ∃ z, 1 + j = z := ⟨_, rfl⟩
          have hj1z : (1 : Int) + (j : Int) = (j1 : Int) := by omega
          have dj : (j : Int) < (n : Int) := by omega
          have dj1 : (j1 : Int) < (q2 : Int) := by have := E1.out; omega
          obtain ⟨y, hy⟩ : ∃ y, l[j]? = some y := ⟨l[j]'(by rw [HN.out.1]; exact hlt), List.getElem?_eq_getElem _⟩
          have hx := parts_left (x0 := (⟨2, 7, inTag 2 7 [] [], [], [], 0, asz + bsz + 6, 0, 0, [1, n + 1]⟩ : Nd)) (m := m) (k := n + 1) (d := 1) (e := asz + 4) j hy
          rw [hj1] at hx
          have hyen := HENl.out y (List.mem_of_getElem? hy)
          obtain ⟨Ay, cy, _, _, _, hcy⟩ := HLK1.out j y hy
          obtain ⟨Ax, cx, _, _, _, hcx⟩ := HLK3.out j1 _ hx
          obtain ⟨kl, hkl⟩ : ∃ z, y.kids.length = z := ⟨_, rfl⟩
          have hkl2 : (mvN 1 (sfN 1 y)).kids.length = kl := by rw [← hkl]; simp [mvN, sfN]
          obtain ⟨tg, htg⟩ : ∃ t, strOfNums y.tag = t := ⟨_, rfl⟩
          obtain ⟨an, han⟩ : ∃ t, strOfNums y.anchor = t := ⟨_, rfl⟩
          obtain ⟨vl, hvl⟩ : ∃ t, strOfNums y.value = t := ⟨_, rfl⟩
          rw [hkl, ndC_spell y _ tg an vl htg han hvl] at hcy
          rw [hkl2, ndC_spell (mvN 1 (sfN 1 y)) _ tg an vl htg han hvl] at hcx
          obtain ⟨st, hst⟩ : ∃ z, y.st = z := ⟨_, rfl⟩
          obtain ⟨en, hen⟩ : ∃ z, y.en = z := ⟨_, rfl⟩
          obtain ⟨kd, hkd⟩ : ∃ z, y.kind = z := ⟨_, rfl⟩
          obtain ⟨sy, hsy⟩ : ∃ z, y.style = z := ⟨_, rfl⟩
          obtain ⟨st1, hst1⟩ : ∃ z, y.st + 1 = z := ⟨_, rfl⟩
          obtain ⟨en1, hen1⟩ : ∃ z, y.en + 1 = z := ⟨_, rfl⟩
          obtain ⟨hd1, hhd1⟩ : ∃ z, y.hd + 1 = z := ⟨_, rfl⟩
          obtain ⟨mr1, hmr1⟩ : ∃ z, y.mr + 1 = z := ⟨_, rfl⟩
          have s0 : (mvN 1 (sfN 1 y)).kind = kd := hkd
          have s1 : (mvN 1 (sfN 1 y)).style = sy := hsy
          have s5 : (mvN 1 (sfN 1 y)).st = st1 := hst1
          have s6 : (mvN 1 (sfN 1 y)).en = en1 := hen1
          have s7 : (mvN 1 (sfN 1 y)).hd = hd1 := hhd1
          have s8 : (mvN 1 (sfN 1 y)).mr = mr1 := hmr1
          rw [s0, s1, s5, s6, s7, s8] at hcx
          rw [hst, hen, hkd, hsy] at hcy
          rw [hst, hen] at hyen
          have HST : Hid (st1 = st + 1 ∧ en1 = en + 1) := ⟨by omega, by omega⟩
          have hstl : st ≤ 65536 := by omega
          have hU := HB.out
          have y0 := cell_keep hU (hcx 0 _ rfl)
          have y1 := cell_keep hU (hcx 1 _ rfl)
          have y2 := cell_keep hU (hcx 2 _ rfl)
          have y3 := cell_keep hU (hcx 3 _ rfl)
          have y4 := cell_keep hU (hcx 4 _ rfl)
          have y5 := cell_keep hU (hcx 5 _ rfl)
          have y6 := cell_keep hU (hcx 6 _ rfl)
          have y7 := cell_keep hU (hcx 7 _ rfl)
          have y8 := cell_keep hU (hcx 8 _ rfl)
          have y9 := cell_keep hU (hcx 9 _ rfl)
          simp only [Nat.add_zero] at y0
          have hU4 : Below U4.heap.size U4 V := below_step HB5.out hU
          have t0 := cell_keep hU4 (hcy 0 _ rfl)
          have t2 := cell_keep hU4 (hcy 2 _ rfl)
          have t4 := cell_keep hU4 (hcy 4 _ rfl)
          have t5 := cell_keep hU4 (hcy 5 _ rfl)
          have t9 := cell_keep hU4 (hcy 9 _ rfl)
          simp only [Nat.add_zero] at t0
          clear hy hx hcy hcx hkl hkl2 htg han hvl hst hen hkd hsy hst1 hen1 hhd1 hmr1 s0 s1 s5 s6 s7 s8 hU hU4 hj1
          go_upto_region 16 with fail
          obtain ⟨V1, hV1⟩ : ∃ z, V.alloc (.cells #[.int .i64 kd, .int .i64 sy, .string tg, .string an, .string vl, .int .i64 (st1 : Int), .int .i64 (en1 : Int), .int .i64 (hd1 : Int), .int .i64 (mr1 : Int), .slice Ax kl cx] 34) = z := ⟨_, rfl⟩
          obtain ⟨gx, hgx⟩ : ∃ z, V.heap.size = z := ⟨_, rfl⟩
          have hbv : Below V.heap.size V V1 := by rw [← hV1]; exact (Below.refl _ _).alloc (Nat.le_refl _) _
          have xb : ∀ (i : Nat) (u : Value), #[.int .i64 kd, .int .i64 sy, .string tg, .string an, .string vl, .int .i64 (st1 : Int), .int .i64 (en1 : Int), .int .i64 (hd1 : Int), .int .i64 (mr1 : Int), .slice Ax kl cx][i]? = some u → V1.cell? ⟨gx, i, none⟩ = some u := fun i u hu => by rw [← hV1, ← hgx, World.cell?_alloc_mark]; exact hu
          rw [hV1, hgx]
          have HBV := Lib.hid (below_step HB.out hbv)
          have x0 := xb 0 _ rfl
          have x2 := xb 2 _ rfl
          have x4 := xb 4 _ rfl
          have x5 := xb 5 _ rfl
          have x9 := xb 9 _ rfl
          have t0' := cell_keep hbv t0
          have t2' := cell_keep hbv t2
          have t4' := cell_keep hbv t4
          have t5' := cell_keep hbv t5
          have t9' := cell_keep hbv t9
          clear hV1 hgx hbv xb y0 y1 y2 y3 y4 y5 y6 y7 y8 y9 t0 t2 t4 t5 t9 HB hj1z dj1
          have hsum : (st : Int) + 1 = (st1 : Int) := by have := HST.out.1; omega
          have hwr : IntKind.i64.wrap ((st : Int) + 1) = (st1 : Int) := by rw [IntWalk.i64_in _ (by omega)]; exact hsum
          have hwr2 : IntKind.i64.wrap (st1 : Int) = (st1 : Int) := by rw [IntWalk.i64_in _ (by omega)]
          go_quiet (fail)
          go_wp2_with fail
          go_roundw
          case rel =>
            first
            | exact ⟨j + 1, by omega, by go_num, below_draws HBV.out _⟩
            | (repeat apply Exists.intro
               exact ⟨⟨j + 1, by omega, by go_num, below_draws HBV.out _⟩, rfl⟩)
          case measure => simp [intOf]; omega
        · obtain rfl : n = j := by omega
          have HBL := Lib.hid HB.out
          clear HB
          go_wp2_with fail
          go_loopw [169] (fun i V => ∃ j : Nat, j ≤ k ∧ i = .int .i64 (j : Int) ∧ Hid (Below U5.heap.size U5 V)) (fun i _ => k - (intOf i).toNat)
          case atStart => exact ⟨0, Nat.zero_le _, rfl, HBL.out⟩
          case round =>
            obtain ⟨j, hj, rfl, HB⟩ := hrel
            obtain ⟨V, hV⟩ : ∃ x, x = wr := ⟨_, rfl⟩
            subst hV
            by_cases hlt : j < k
            · skip
              obtain ⟨j1, hj1⟩ : ∃ z, q1 + j = z := ⟨_, rfl⟩
              have hj1z : (q1 : Int) + (j : Int) = (j1 : Int) := by omega
              have dj : (j : Int) < (k : Int) := by omega
              have dj1 : (j1 : Int) < (q2 : Int) := by have := E1.out; omega
              obtain ⟨y, hy⟩ : ∃ y, m[j]? = some y := ⟨m[j]'(by rw [HN.out.2]; exact hlt), List.getElem?_eq_getElem _⟩
              have hx := parts_right (x0 := (⟨2, 7, inTag 2 7 [] [], [], [], 0, asz + bsz + 6, 0, 0, [1, n + 1]⟩ : Nd)) (l := l) (k := n + 1) (d := 1) (e := asz + 4) j hy
              rw [HN.out.1, E1.out.1, hj1] at hx
              have hyen := HENm.out y (List.mem_of_getElem? hy)
              obtain ⟨Ay, cy, _, _, _, hcy⟩ := HLK2.out j y hy
              obtain ⟨Ax, cx, _, _, _, hcx⟩ := HLK3.out j1 _ hx
              obtain ⟨kl, hkl⟩ : ∃ z, y.kids.length = z := ⟨_, rfl⟩
              have hkl2 : (mvN (n + 1) (sfN (asz + 4) y)).kids.length = kl := by rw [← hkl]; simp [mvN, sfN]
              obtain ⟨tg, htg⟩ : ∃ t, strOfNums y.tag = t := ⟨_, rfl⟩
              obtain ⟨an, han⟩ : ∃ t, strOfNums y.anchor = t := ⟨_, rfl⟩
              obtain ⟨vl, hvl⟩ : ∃ t, strOfNums y.value = t := ⟨_, rfl⟩
              rw [hkl, ndC_spell y _ tg an vl htg han hvl] at hcy
              rw [hkl2, ndC_spell (mvN (n + 1) (sfN (asz + 4) y)) _ tg an vl htg han hvl] at hcx
              obtain ⟨st, hst⟩ : ∃ z, y.st = z := ⟨_, rfl⟩
              obtain ⟨en, hen⟩ : ∃ z, y.en = z := ⟨_, rfl⟩
              obtain ⟨kd, hkd⟩ : ∃ z, y.kind = z := ⟨_, rfl⟩
              obtain ⟨sy, hsy⟩ : ∃ z, y.style = z := ⟨_, rfl⟩
              obtain ⟨st1, hst1⟩ : ∃ z, y.st + (asz + 4) = z := ⟨_, rfl⟩
              obtain ⟨en1, hen1⟩ : ∃ z, y.en + (asz + 4) = z := ⟨_, rfl⟩
              obtain ⟨hd1, hhd1⟩ : ∃ z, y.hd + (asz + 4) = z := ⟨_, rfl⟩
              obtain ⟨mr1, hmr1⟩ : ∃ z, y.mr + (asz + 4) = z := ⟨_, rfl⟩
              have s0 : (mvN (n + 1) (sfN (asz + 4) y)).kind = kd := hkd
              have s1 : (mvN (n + 1) (sfN (asz + 4) y)).style = sy := hsy
              have s5 : (mvN (n + 1) (sfN (asz + 4) y)).st = st1 := hst1
              have s6 : (mvN (n + 1) (sfN (asz + 4) y)).en = en1 := hen1
              have s7 : (mvN (n + 1) (sfN (asz + 4) y)).hd = hd1 := hhd1
              have s8 : (mvN (n + 1) (sfN (asz + 4) y)).mr = mr1 := hmr1
              rw [s0, s1, s5, s6, s7, s8] at hcx
              rw [hst, hen, hkd, hsy] at hcy
              rw [hst, hen] at hyen
              have HST : Hid (st1 = st + (asz + 4) ∧ en1 = en + (asz + 4)) := ⟨by omega, by omega⟩
              have hstl : st ≤ 65536 := by omega
              have hU := HB.out
              have y0 := cell_keep hU (hcx 0 _ rfl)
              have y1 := cell_keep hU (hcx 1 _ rfl)
              have y2 := cell_keep hU (hcx 2 _ rfl)
              have y3 := cell_keep hU (hcx 3 _ rfl)
              have y4 := cell_keep hU (hcx 4 _ rfl)
              have y5 := cell_keep hU (hcx 5 _ rfl)
              have y6 := cell_keep hU (hcx 6 _ rfl)
              have y7 := cell_keep hU (hcx 7 _ rfl)
              have y8 := cell_keep hU (hcx 8 _ rfl)
              have y9 := cell_keep hU (hcx 9 _ rfl)
              simp only [Nat.add_zero] at y0
              have hU4 : Below U4.heap.size U4 V := below_step HB5.out hU
              have t0 := cell_keep hU4 (hcy 0 _ rfl)
              have t2 := cell_keep hU4 (hcy 2 _ rfl)
              have t4 := cell_keep hU4 (hcy 4 _ rfl)
              have t5 := cell_keep hU4 (hcy 6 _ rfl)
              have t9 := cell_keep hU4 (hcy 9 _ rfl)
              simp only [Nat.add_zero] at t0
              clear hy hx hcy hcx hkl hkl2 htg han hvl hst hen hkd hsy hst1 hen1 hhd1 hmr1 s0 s1 s5 s6 s7 s8 hU hU4 hj1
              go_upto_region 23 with fail
              obtain ⟨V1, hV1⟩ : ∃ z, V.alloc (.cells #[.int .i64 kd, .int .i64 sy, .string tg, .string an, .string vl, .int .i64 (st1 : Int), .int .i64 (en1 : Int), .int .i64 (hd1 : Int), .int .i64 (mr1 : Int), .slice Ax kl cx] 34) = z := ⟨_, rfl⟩
              obtain ⟨gx, hgx⟩ : ∃ z, V.heap.size = z := ⟨_, rfl⟩
              have hbv : Below V.heap.size V V1 := by rw [← hV1]; exact (Below.refl _ _).alloc (Nat.le_refl _) _
              have xb : ∀ (i : Nat) (u : Value), #[.int .i64 kd, .int .i64 sy, .string tg, .string an, .string vl, .int .i64 (st1 : Int), .int .i64 (en1 : Int), .int .i64 (hd1 : Int), .int .i64 (mr1 : Int), .slice Ax kl cx][i]? = some u → V1.cell? ⟨gx, i, none⟩ = some u := fun i u hu => by rw [← hV1, ← hgx, World.cell?_alloc_mark]; exact hu
              rw [hV1, hgx]
              have HBV := Lib.hid (below_step HB.out hbv)
              have x0 := xb 0 _ rfl
              have x2 := xb 2 _ rfl
              have x4 := xb 4 _ rfl
              have x5 := xb 6 _ rfl
              have x9 := xb 9 _ rfl
              have t0' := cell_keep hbv t0
              have t2' := cell_keep hbv t2
              have t4' := cell_keep hbv t4
              have t5' := cell_keep hbv t5
              have t9' := cell_keep hbv t9
              clear hV1 hgx hbv xb y0 y1 y2 y3 y4 y5 y6 y7 y8 y9 t0 t2 t4 t5 t9 HB hj1z dj1
              obtain ⟨en0, hen0⟩ : ∃ z, en + asz = z := ⟨_, rfl⟩
              have hsum0 : (en : Int) + (asz : Int) = (en0 : Int) := by omega
              have hsum : (en0 : Int) + 4 = (en1 : Int) := by have := HST.out.2; omega
              have hwr : IntKind.i64.wrap ((en : Int) + (asz : Int)) = (en0 : Int) := by rw [IntWalk.i64_in _ (by omega)]; exact hsum0
              have hwr2 : IntKind.i64.wrap (en0 : Int) = (en0 : Int) := by rw [IntWalk.i64_in _ (by omega)]
              have hwr3 : IntKind.i64.wrap ((en0 : Int) + 4) = (en1 : Int) := by rw [IntWalk.i64_in _ (by omega)]; exact hsum
              have hwr4 : IntKind.i64.wrap (en1 : Int) = (en1 : Int) := by rw [IntWalk.i64_in _ (by omega)]
              go_quiet (fail)
              go_wp2_with fail
              go_roundw
              case rel =>
                first
                | exact ⟨j + 1, by omega, by go_num, below_draws HBV.out _⟩
                | (repeat apply Exists.intro
                   exact ⟨⟨j + 1, by omega, by go_num, below_draws HBV.out _⟩, rfl⟩)
              case measure => simp [intOf]; omega
            · obtain rfl : j = k := by omega
              have HBX := Lib.hid (below_step HBW.out HB.out)
              go_wp2_with fail
              refine (wakes_at HBX.out HS.out HM.out).mono ?_
              rintro e W9 ⟨rfl, hb9⟩
              have HB9 := Lib.hid hb9
              clear hb9
              go_wp2_with fail
              go_ret
              exact ⟨rfl, HB9.out⟩
    · have hne : (x2 != 0) = true := bne_iff_ne.2 hx2
      subst hx1
      go_wp2_with fail
      refine (wakes_at HB4.out HS.out HM.out).mono ?_
      rintro e W9 ⟨rfl, hb9⟩
      have HB9 := Lib.hid hb9
      clear hb9
      go_wp2_with fail
      go_ret
      exact ⟨rfl, HB9.out⟩
  · have hne : (x1 != 0) = true := bne_iff_ne.2 hx1
    go_wp2_with fail
    refine (wakes_at HB4.out HS.out HM.out).mono ?_
    rintro e W9 ⟨rfl, hb9⟩
    have HB9 := Lib.hid hb9
    clear hb9
    go_wp2_with fail
    go_ret
    exact ⟨rfl, HB9.out⟩


set_option maxRecDepth 100000 in
theorem lifted (os : Os) (started : os.Started) (H : Type) (enc : TypeId × Value → H) :
    ReturnsInHanded {} Tryz.checked os 3 .any (fun w args => (Rows.inlinePartsSpec.pre enc Tryz.prog Tryz.f3 Rows.inlinePartsRow.domain false w args ∧ laidMetH Tryz.prog Rows.inlinePartsRow.laid w) ∧ sizedMet enc Tryz.prog Tryz.f3 (OpenSpec.ofChange Rows.inlinePartsSpec) false w args)
      (Rows.inlinePartsSpec.post enc Tryz.prog Tryz.f3 false true false false) := by
  refine returns_listed (C := Tryz.checked) (X := fun w _ => laidMetH Tryz.prog Rows.inlinePartsRow.laid w) (fun _ _ _ hh h => h.of_heap hh) own started (by kernel_rfl) Tryz.func3
    (ChangeSpec.witness_shaped (enc := enc) (C := Tryz.checked) (os := os) (X := fun w _ => laidMetH Tryz.prog Rows.inlinePartsRow.laid w) false (World.laidAll Tryz.prog os Rows.inlinePartsRow.laid) #[.agg #[.slice none 0 0, .slice none 0 0], .agg #[.slice none 0 0, .slice none 0 0]] 8 (World.laidAll_os _ _ _)
      (World.shaped_of_ZipB (by kernel_rfl) (by kernel_rfl)) (by kernel_rfl) (by kernel_rfl) (by kernel_rfl)
      (by rw [MakeChecks.laidMetH_plain _ _ _ (by kernel_rfl)]; exact laidMet_laidAll _ (by kernel_rfl) (by kernel_rfl))) ?_
  intro W base args ds gs before hval0 hW hX hsh
  have hval : ∀ (j : Nat) t v, Tryz.f3.params[j]? = some t → args[j]? = some v → Value.okWide Tryz.prog W .any base t v := hval0
  have hW' := hW
  obtain ⟨p, q, hA0, hV, rfl, hfz, hnd⟩ := hW
  have hA : DataW.TrodAll enc Tryz.prog W 0 (fun _ => true) true Tryz.f3.params.toList args.toList ds p := hA0
  rw [Tryz.params3] at hA hval
  obtain ⟨v0, vs0, d0, ds0, p0, q0, hargs, rfl, rfl, h0, r0⟩ := trodAll_cons hA
  obtain ⟨v1, vs1, d1, ds1, p1, q1, rfl, rfl, rfl, h1, r1⟩ := trodAll_cons r0
  obtain ⟨rfl, rfl, rfl⟩ := trodAll_nil r1
  obtain rfl : args = #[v0, v1] := by cases args; simp_all
  obtain ⟨rfl, rfl⟩ := trodVars_none hV
  have k0 := h0
  have lt0 : ∀ x ∈ p0, x.block < W.heap.size := by obtain ⟨m, hm⟩ := k0; exact DataW.trod_lt m _ _ _ hm
  have w0 := open_plan (hval 0 25 v0 rfl rfl) h0
  have k1 := h1
  have lt1 : ∀ x ∈ p1, x.block < W.heap.size := by obtain ⟨m, hm⟩ := k1; exact DataW.trod_lt m _ _ _ hm
  have w1 := open_plan (hval 1 25 v1 rfl rfl) h1
  clear hA0 hval0
  refine (walk v0 v1 W w0 w1 (⟨shorts_in hX (by kernel_rfl) (List.mem_of_getElem? (i := 1) rfl), maxL_shaped hsh⟩)).mono fun e W' ⟨he, bel⟩ => ?_
  subst he
  exact ⟨_, rfl, _, _, _, [], _, [], hW', trodAll_mk1 (shut_bool Tryz.underlying4 _), (trodAll_cons_mk (Below.trod laidOut (by kernel_rfl) (of_decide_eq_true (by kernel_rfl)) k0 bel lt0) (trodAll_cons_mk (Below.trod laidOut (by kernel_rfl) (of_decide_eq_true (by kernel_rfl)) k1 bel lt1) trodAll_mk0)), rfl, bel.frame _, fun h => by cases h⟩

theorem over : Rows.inlinePartsRow.holds Tryz.pinned (OpenSpec.ofChange Rows.inlinePartsSpec) :=
  OpenClaim.holds_of_wide 3 Tryz.f3 rfl rfl rfl rfl rfl rfl rfl ⟨rfl, rfl, rfl, rfl, rfl⟩ rfl rfl rfl rfl rfl (by kernel_rfl) Tryz.func3 (by kernel_rfl)
    (of_decide_eq_true (by kernel_rfl)) (by unfold Func.isWrapper; first | (rw [if_pos (by decide +kernel)]; kernel_rfl) | (rw [if_neg (by decide +kernel)]; exact ⟨rfl, rfl⟩))
    (fun os started H enc _ => lifted os started H enc)

theorem proved : Rows.InlinePartsCardSaid :=
  Claim7.holds_tied_plain_at .later [] [.data, .data, .pinned] true (true, "5386a357bab227d37026cd594ddba446b339da503d7c645c7399ba97084ed683") false over (fun _ h => by cases h) (by kernel_rfl) (fun _ h => by cases h) inlineParts_row_tie rfl ⟨rfl, rfl⟩ (by kernel_rfl) rfl
    (fun f fn hf hfn => by
      obtain rfl : f = 3 := Option.some.inj ((show Tryz.prog.funcNamed Rows.inlinePartsRow.func = some 3 by kernel_rfl).symm.trans hf) |>.symm
      obtain rfl : fn = Tryz.f3 := (Option.some.inj (Tryz.func3.symm.trans hfn)).symm
      exact ⟨by kernel_rfl, fun j t ht => by
        rw [Tryz.params3] at ht
        have hm : t ∈ [25, 25] := by simpa using Array.mem_of_getElem? ht
        have hall : ([25, 25].all fun u => !Tryz.prog.wantsStandIn u) = true := by kernel_rfl
        exact (show Tryz.prog.wantsStandIn t = false by simpa using List.all_eq_true.1 hall t hm)⟩)
    (by kernel_rfl)
#print axioms proved
end Go.Proofs.YtocjegmacpmpoaaGreatDoor.inlineParts
