/- Chapter 14: the document's composer.thing: of a node its number, and the things below it. · Chapter 14: which keys are said twice, told of a list and its Maps. · Chapter 14: in a tree a node has one parent, and one place there. · Chapter 14: the program's words and the document's: an anchor ahead, a key said twice. · Chapter 14: the document's own: a node's parent (scholiumref08.Parent). · Chapter 14: the document's own Check (scholiumref08.Check) of a tree. · Chapter 14: the document's Compose of a tree. · Chapter 14: two lists of the same things (scholiumkeep.Things). · Chapter 14: the law's trees in memory. -/
import Derived.Test.YtcddlconcngjlaaNM
import Derived.Test.YtcddlconcngjlaaNL
set_option linter.unusedSimpArgs false
set_option linter.unusedVariables false
namespace Go.Proofs.Ytcddlconcngjlaa
open Go.RowKit
set_option linter.unusedVariables false
set_option linter.unusedSimpArgs false
set_option maxRecDepth 100000
theorem kidN_len (es : List Int) : ∀ ks : List Int, (kidN es ks).length ≤ ks.length
  | [] => Nat.le_refl _
  | k :: ks => by
    have := kidN_len es ks
    rw [kidN]
    split <;> simp only [List.length_cons] <;> omega
theorem nbGo_len (l : List Gn) (n : Nat) : ∀ (m : List Gn) (i : Nat) (s : List Int × Nat), (nbGo l n m i s).1.length = s.1.length
  | [], i, s => rfl
  | x :: t, i, s => by rw [nbGo, nbGo_len l n t, nbS_len]
theorem nbr_len (l : List Gn) : (nbrF l).length = l.length := by unfold nbrF; rw [nbGo_len, List.length_replicate]
theorem fst_at {P : List TK} {Q R : List Th} {t : Th} (h : P.map Prod.fst = Q ++ t :: R) : ∃ kv, P[Q.length]? = some (t, kv) := by
  have h1 : (P.map Prod.fst)[Q.length]? = some t := by rw [h, List.getElem?_append_right (Nat.le_refl _), Nat.sub_self]; rfl
  rw [List.getElem?_map, Option.map_eq_some_iff] at h1
  obtain ⟨⟨t', kv⟩, hp, rfl⟩ := h1
  exact ⟨kv, hp⟩
theorem fst_set {P : List TK} {Q R : List Th} {t t' : Th} {v : Value} (h : P.map Prod.fst = Q ++ t :: R) : (P.set Q.length (t', v)).map Prod.fst = Q ++ t' :: R := by
  rw [List.map_set, h, List.set_append_right _ _ (Nat.le_refl _), Nat.sub_self]
  rfl
def CtP (W0 : World) (B S bc bn nc g n cap : Nat) (l : List Gn) (s e1 : Nat) (P : List TK) (r : Int) (e : Ending) (w' : World) : Prop :=
  e = .returned (.int .i64 r) ∧ ∃ (O : Value) (P' : List TK), Cst W0 B S bc (.slice (some ⟨g, 0, none⟩) n cap) l e1 (.slice (some ⟨bn, 0, none⟩) n nc) O P' w' ∧ P'.map Prod.fst = P.map Prod.fst ++ cmpL (nbrF l) (seg l s e1)
section
variable {W0 : World} {B S bc bn nc g cap n : Nat} {l : List Gn} {E : Nat → Nat}
set_option maxHeartbeats 16000000 in
theorem cthing_rec (hL : GL W0 (some ⟨g, 0, none⟩) n cap l) (hE : GE l E) (hT : TxG l) (hK : KdG l) (hS : Small l) (h0 : (ckF l).1 = 0) (hn : n ≤ 1000000) (hB : W0.heap.size ≤ B) (hBS : B ≤ S) (hbc : W0.heap.size ≤ bc) :
    ∀ (f s : Nat) (x : Gn) (O : Value) (P : List TK) (V : World), l[s]? = some x → E s - s ≤ f → Cst W0 B S bc (.slice (some ⟨g, 0, none⟩) n cap) l s (.slice (some ⟨bn, 0, none⟩) n nc) O P V →
    Calls Try.prog 62 #[.pointer (some ⟨bc, 0, none⟩), .int .i64 (s : Int)] V (CtP W0 B S bc bn nc g n cap l s (E s) P ((nbrF l).getD s 0)) := by
  intro f
  induction f with
  | zero =>
    intro s x O P V hx hf hC
    have := (hE.lt (List.getElem?_eq_some_iff.1 hx).1).1
    omega
  | succ f ih =>
    intro s x O P V hx hf hC
    have IH := Lib.hid ih
    clear ih
    have hsl := (List.getElem?_eq_some_iff.1 hx).1
    have hsn : s < n := by rw [← hL.len]; exact hsl
    have ds : (s : Int) < (n : Int) := by omega
    have hles := hE.lt hsl
    have HCL : Hid (∀ U, Below W0.heap.size W0 U → ∃ K c, x.kids.length ≤ c ∧ RdC U K (ki x.kids) ∧ ∀ (j : Nat) (u : Value), (gnC x (.slice K x.kids.length c))[j]? = some u → U.cell? ⟨g, s * 10 + j, none⟩ = some u) := fun U hU => by
      obtain ⟨g1, o1, eA, K1, c1, a1, a2, a3, a4, a5⟩ := (hL.below hU).at_ s x hx
      injection eA with eA
      injection eA with e1 e2
      subst e1 e2
      refine ⟨K1, c1, a1, a4, fun j u hu => ?_⟩
      have := a5 j u hu
      rwa [Nat.zero_add] at this
    obtain ⟨K1, c1, a1, a4, a50⟩ := HCL.out W0 (Below.refl _ _)
    have a5 := fun j u hu => cell_keep hC.bel (a50 j u hu)
    have HK4 := Lib.hid a4
    have hpn := Lib.hid (nbr_len l)
    have HLN := Lib.hid hL.len
    clear a50 a4
    have x0 := a5 0 _ rfl
    have x4 := a5 4 _ rfl
    rw [Nat.add_zero] at x0
    have cb0 := hC.cm.cell 0 _ rfl
    have cb1 := hC.cm.cell 1 _ rfl
    have hnm : ∀ j, j < n → V.cell? ⟨bn, j, none⟩ = some (.int .i64 (nMv l s j)) := fun j hj => by
      have hr := hC.num
      rw [hL.len] at hr
      rw [hr.cellAt j (by omega)]
      exact ki_at (nM_get l s (by rw [hL.len]; exact hj))
    obtain ⟨_, _, hvs⟩ := hT x (List.mem_of_getElem? hx)
    by_cases h4 : x.kind = 4
    · obtain ⟨c, y, hc, hci, hy, hyk⟩ := al_to h0 hK (by rw [hL.len]; exact hn) hx h4
      obtain ⟨q1, q2, q3, q4⟩ := hE.ends.node s _ (hE.look hx)
      have hks : x.kids = [] := by
        rcases q3 with e | e | ⟨e, _⟩
        · exact List.map_eq_nil_iff.1 e
        · exact absurd (show x.kind = 2 from e) (by omega)
        · exact absurd (show x.kind = 3 from e) (by omega)
      have hE1 : E s = s + 1 := by
        have := hE.row hx
        rw [hks] at this
        exact (show s + 1 = E s from this).symm
      have hr : (nbrF l).getD s 0 = (ntN (l.take c) : Int) := by rw [nbr_al hx h4 hc hci, nbr_at hy hyk]
      have cn := hnm c (by omega)
      have hv : nMv l s c = (ntN (l.take c) : Int) := by
        unfold nMv
        rw [if_pos ⟨hci, by rw [isAl_at hy]; simpa using hyk⟩]
      rw [hv] at cn
      obtain ⟨q, hq⟩ : ∃ z, ntN (l.take c) = z := ⟨_, rfl⟩
      rw [hq] at cn hr
      obtain ⟨vl, hvl⟩ : ∃ z, x.value = z := ⟨_, rfl⟩
      rw [hvl] at x4 hvs hc
      rw [h4] at x0
      have T3 : Hid (∀ (m : Nat), Calls Try.prog 32 #[.slice (some ⟨g, 0, none⟩) n cap, .string vl] (V.drewN m) fun e w'' => e = .returned (.int .i64 (c : Int)) ∧ ∃ m', w'' = V.drewN m') := fun m => (rtarget_at (hL.below (below_drewN hC.bel m)) hT hn vl hvs).mono fun e w'' ⟨h1, h2⟩ => ⟨by rw [h1, hc]; rfl, m, h2.symm⟩
      have HR : Hid (Cst W0 B S bc (.slice (some ⟨g, 0, none⟩) n cap) l (E s) (.slice (some ⟨bn, 0, none⟩) n nc) O P V ∧ P.map Prod.fst = P.map Prod.fst ++ cmpL (nbrF l) (seg l s (E s)) ∧ (nbrF l).getD s 0 = (q : Int)) := by
        refine ⟨?_, ?_, hr⟩
        · rw [hE1]
          exact ⟨hC.cm, by rw [nM_al hx h4]; exact hC.num, hC.numS, hC.bcS, hC.sV, hC.out, by rw [hC.len, take_snoc hx, ntN_snoc, if_pos h4], hC.bel⟩
        · rw [hE1, seg_one hx, cmpL_one, if_pos h4, List.append_nil]
      have dc : (c : Int) < (n : Int) := by omega
      have dq : (0 : Int) ≤ (q : Int) := by omega
      have dq2 : decide ((q : Int) ≥ 0) = true := decide_eq_true dq
      clear hC hx hy hc hv hq hvl hr hnm a5 hks hE1
      go_enter Try.func62, Try.ntmps62
      go_wp2_with fail
      go_quiet (first
        | (go_at_call 32; exact T3.out _))
      obtain ⟨V2, hV2⟩ : ∃ z, V.drewN nq = z := ⟨_, rfl⟩
      have hb2 : Below V.heap.size V V2 := by rw [← hV2]; exact below_drewN (Below.refl _ _) nq
      rw [hV2]
      have cb1' := cell_keep hb2 cb1
      have cn' := cell_keep hb2 cn
      have HB2 := Lib.hid hb2
      clear hV2 hb2 x0 x4 cb0 cb1 cn
      go_wp2_with fail
      go_ret
      exact ⟨by rw [HR.out.2.2]; rfl, O, P, HR.out.1.below HB2.out, HR.out.2.1⟩
    · obtain ⟨OA, oc, eO, hO1, hO2, _⟩ := own_form hC.out.row
      subst eO
      have hlen := hC.len
      have hr : (nbrF l).getD s 0 = (ntN (l.take s) : Int) := nbr_at hx h4
      have hmn : ntN (l.take s) ≤ s := Nat.le_trans (List.length_filter_le _ _) (List.length_take_le _ _)
      obtain ⟨m, hm⟩ : ∃ z, P.length = z := ⟨_, rfl⟩
      rw [hm] at hC hO1 hlen
      rw [← hlen] at hr hmn
      have cb2 := hC.cm.cell 2 _ rfl
      have cn := hnm s hsn
      rw [nMv_self] at cn
      have x1 := a5 1 _ rfl
      have x2 := a5 2 _ rfl
      have x3 := a5 3 _ rfl
      have x5 := a5 5 _ rfl
      have x6 := a5 6 _ rfl
      have x7 := a5 7 _ rfl
      have x8 := a5 8 _ rfl
      have x9 := a5 9 _ rfl
      obtain ⟨kd, hkd⟩ : ∃ z, x.kind = z := ⟨_, rfl⟩
      obtain ⟨tg, htg⟩ : ∃ z, x.tag = z := ⟨_, rfl⟩
      obtain ⟨an, han⟩ : ∃ z, x.anchor = z := ⟨_, rfl⟩
      obtain ⟨vl, hvl⟩ : ∃ z, x.value = z := ⟨_, rfl⟩
      obtain ⟨kl, hkl⟩ : ∃ z, x.kids.length = z := ⟨_, rfl⟩
      have hkl2 := (hS x (List.mem_of_getElem? hx)).1
      have hkdi := (hK x (List.mem_of_getElem? hx)).1
      rw [hkd] at x0 h4 hkdi
      rw [htg] at x2
      rw [han] at x3
      rw [hvl] at x4
      rw [hkl] at x9 a1 hkl2
      have e4 : (kd == 4) = false := beq_eq_false_iff_ne.2 h4
      have hth : thOf (nbrF l) x = ⟨thK kd, tg, vl, kidN (nbrF l) x.kids⟩ := by unfold thOf; rw [hkd, htg, hvl]
      have hrow := hC.num
      rw [hL.len] at hrow
      have hbnB := own_base hrow bn rfl
      have hbnV := own_lt hrow bn rfl
      have hbns := hC.numS bn rfl
      have hfz := hrow.frozenAt s
      obtain ⟨X, hX⟩ : ∃ z, V.heap.size = z := ⟨_, rfl⟩
      obtain ⟨V1, hV1⟩ : ∃ z, V.alloc (.cells #[.int .i64 kd, .int .i64 x.style, .string tg, .string an, .string vl, .int .i64 x.st, .int .i64 x.en, .int .i64 x.hd, .int .i64 x.mr, .slice K1 kl c1] 41) = z := ⟨_, rfl⟩
      have hb1 : Below V.heap.size V V1 := by rw [← hV1]; exact (Below.refl _ _).alloc (Nat.le_refl _) _
      have bx : Box V1 X [.int .i64 kd, .int .i64 x.style, .string tg, .string an, .string vl, .int .i64 x.st, .int .i64 x.en, .int .i64 x.hd, .int .i64 x.mr, .slice K1 kl c1] := by rw [← hV1, ← hX]; exact Box.new V _
      have s1 : V1.heap.size = X + 1 := by rw [← hV1, ← hX]; simp
      have H1 : Hid (Cst W0 B S bc (.slice (some ⟨g, 0, none⟩) n cap) l s (.slice (some ⟨bn, 0, none⟩) n nc) (.slice OA m oc) P V1 ∧ Box V1 X [.int .i64 kd, .int .i64 x.style, .string tg, .string an, .string vl, .int .i64 x.st, .int .i64 x.en, .int .i64 x.hd, .int .i64 x.mr, .slice K1 kl c1] ∧ V1.heap.size = X + 1) := ⟨hC.below hb1, bx, s1⟩
      have d1 := cell_keep hb1 cb1
      have d2 := cell_keep hb1 cb2
      have dn := cell_keep hb1 cn
      have fz1 : V1.frozen? ⟨bn, s, none⟩ = false := by
        have h := H1.out.1.num
        rw [hL.len] at h
        exact h.frozenAt s
      have HD := Lib.hid (And.intro d1 (And.intro d2 (And.intro dn fz1)))
      have HX := Lib.hid (And.intro hx (And.intro hth (And.intro hr (And.intro hkl (And.intro hlen hm)))))
      have HY := Lib.hid (And.intro hkd (And.intro htg (And.intro han hvl)))
      have HN := Lib.hid (And.intro hbnB (And.intro hbnV hbns))
      have HOXV : Hid (∀ k, Value.ownBlock (.slice OA m oc) = some k → k < X) := fun k hk => by rw [← hX]; exact own_lt hC.out.row k hk
      have HZ : Hid (bn < X ∧ S ≤ X ∧ bc < X) := ⟨by omega, by have := hC.sV; omega, by have := hC.sV; have := hC.bcS; omega⟩
      clear hC hx hr hth hkl hlen hm hkd htg han hvl hrow hnm a5 hb1 bx s1 d1 d2 dn fz1 hfz hbnB hbnV hbns
      go_enter Try.func62, Try.ntmps62
      go_upto_region 6 with fail
      clear hV1 x0 x1 x2 x3 x4 x5 x6 x7 x8 x9 cb0 cb1 cb2 cn hX
      obtain ⟨d1, d2, dn, fz1⟩ := HD.out
      go_upto_region 8 with fail
      obtain ⟨V2, hV2⟩ : ∃ z, V1.setCell ⟨bn, s, none⟩ (.int .i64 (m : Int)) = z := ⟨_, rfl⟩
      have hsz2 : V2.heap.size = X + 1 := by rw [← hV2]; simpa [World.setCell] using H1.out.2.2
      have H2 : Hid (CmB V2 bc [.slice (some ⟨g, 0, none⟩) n cap, .slice (some ⟨bn, 0, none⟩) n nc, .slice OA m oc] ∧ V2.ownsRow B 3 1 (.slice (some ⟨bn, 0, none⟩) n nc) n (ki (nM l (s + 1))) ∧ ThA S V2 (.slice OA m oc) P ∧ Below W0.heap.size W0 V2 ∧ Box V2 X [.int .i64 kd, .int .i64 x.style, .string tg, .string an, .string vl, .int .i64 x.st, .int .i64 x.en, .int .i64 x.hd, .int .i64 x.mr, .slice K1 kl c1] ∧ S ≤ X) := by
        rw [← hV2]
        refine ⟨H1.out.1.cm.other (fun e => HN.out.2.2.1 e.symm) _ _, ?_, H1.out.1.out.setCell _ _ HN.out.2.2.2, H1.out.1.bel.setCell (p := ⟨bn, s, none⟩) (Nat.le_trans hB HN.out.1) _, H1.out.2.1.other (by have := HZ.out.1; omega) _ _, HZ.out.2.1⟩
        have h := H1.out.1.num
        rw [hL.len] at h
        have h2 := (h.stored s (.int .i64 (m : Int))).1
        have e : (ki (nM l s)).set s (.int .i64 (m : Int)) = ki (nM l (s + 1)) := by
          rw [nM_set HX.out.1 (by rw [HY.out.1]; exact h4), ← HX.out.2.2.2.2.1]
          unfold ki
          rw [List.map_set]
        rw [e] at h2
        exact h2
      rw [hV2]
      clear hV2 d1 d2 dn fz1
      have z0 := H2.out.2.2.2.2.1.cell 0 _ rfl
      have z2 := H2.out.2.2.2.2.1.cell 2 _ rfl
      have z4 := H2.out.2.2.2.2.1.cell 4 _ rfl
      have HOX0 : Hid (∀ k, Value.ownBlock (.slice OA m oc) = some k → k < X) := HOXV.out
      have HBC : Hid (W0.heap.size ≤ S ∧ bc < S) := ⟨by omega, H1.out.1.bcS⟩
      by_cases hk0 : kd = 0
      · subst hk0
        go_upto_region 11 with fail
        obtain ⟨V3, hV3⟩ : ∃ z, V2.alloc (.cells #[.int .i64 1, .string tg, .string vl, .slice none 0 0] 78) = z := ⟨_, rfl⟩
        rw [hV3]
        have H3 : Hid (CmB V3 bc [.slice (some ⟨g, 0, none⟩) n cap, .slice (some ⟨bn, 0, none⟩) n nc, .slice OA m oc] ∧ V3.ownsRow B 3 1 (.slice (some ⟨bn, 0, none⟩) n nc) n (ki (nM l (s + 1))) ∧ ThA S V3 (.slice OA m oc) P ∧ Below W0.heap.size W0 V3 ∧ V3.cell? ⟨X, 9, none⟩ = some (.slice K1 kl c1) ∧ ThB V3 (X + 1) [.int .i64 1, .string tg, .string vl, .slice none 0 0] ∧ V3.heap.size = X + 2) := by
          have hb3 : Below V2.heap.size V2 V3 := by rw [← hV3]; exact (Below.refl _ _).alloc (Nat.le_refl _) _
          refine ⟨H2.out.1.below hb3, own_below H2.out.2.1 hb3, H2.out.2.2.1.below hb3, below_step H2.out.2.2.2.1 hb3, cell_keep hb3 (H2.out.2.2.2.2.1.cell 9 _ rfl), ?_, by rw [← hV3]; simp [hsz2]⟩
          rw [← hV3, ← hsz2]
          exact ThB.new V2 _
        have hth2 : thOf (nbrF l) x = ⟨1, tg, vl, kidN (nbrF l) x.kids⟩ := HX.out.2.1
        obtain ⟨tk, htk⟩ : ∃ z : Int, 1 = z := ⟨_, rfl⟩
        have H3' : Hid (CmB V3 bc [.slice (some ⟨g, 0, none⟩) n cap, .slice (some ⟨bn, 0, none⟩) n nc, .slice OA m oc] ∧ V3.ownsRow B 3 1 (.slice (some ⟨bn, 0, none⟩) n nc) n (ki (nM l (s + 1))) ∧ ThA S V3 (.slice OA m oc) P ∧ Below W0.heap.size W0 V3 ∧ V3.cell? ⟨X, 9, none⟩ = some (.slice K1 kl c1) ∧ ThB V3 (X + 1) [.int .i64 tk, .string tg, .string vl, .slice none 0 0] ∧ V3.heap.size = X + 2) := by rw [← htk]; exact H3.out
        clear H3
        have H3 := H3'
        clear H3'
        have HTH : Hid (thOf (nbrF l) x = ⟨tk, tg, vl, kidN (nbrF l) x.kids⟩) := by rw [← htk]; exact hth2
        clear hth2 htk z0 z2 z4 hsz2 hkdi
        have HOX : Hid (∀ k, Value.ownBlock (.slice OA m oc) = some k → S ≤ k ∧ k < X + 1 ∧ k ≠ X) := fun k hk => ⟨own_base H3.out.2.2.1.row k hk, by have := HOX0.out k hk; omega, by have := HOX0.out k hk; omega⟩
        have HS := Lib.hid (And.intro HN.out.2.2.1 (And.intro HN.out.2.2.2 HZ.out))
        clear hV3
        obtain ⟨U, hU⟩ : ∃ z, V3.drew = z := ⟨_, rfl⟩
        have hbU : Below V3.heap.size V3 U := by rw [← hU]; exact (Below.refl _ _).drew
        obtain ⟨UB, hUB⟩ : ∃ z, U.alloc (.cells #[.int .i64 tk, .string tg, .string vl, .slice none 0 0] 78) = z := ⟨_, rfl⟩
        have hbB : Below U.heap.size U UB := by rw [← hUB]; exact (Below.refl _ _).alloc (Nat.le_refl _) _
        have hnew : RdC UB (some ⟨U.heap.size, 0, none⟩) [.int .i64 tk, .string tg, .string vl, .slice none 0 0] := by rw [← hUB]; exact RdC.new rfl (fun j v hv => by simpa using hv)
        have hN3 := (H3.out.2.2.1.below hbU).below hbB
        have hrow3 := hN3.row
        rw [HX.out.2.2.2.2.2] at hrow3
        have hSUB : S ≤ UB.heap.size := by have h1 := hbU.size; have h2 := hbB.size; have h3 := H3.out.2.2.2.2.2.2; have h4 := HZ.out.2.1; omega
        obtain ⟨v', UC, hrun, ho, hg, hv⟩ := run_append_rows Try.underlying55 thing_info rfl (by omega) (by omega) UB S _ m _ hrow3 hSUB (some ⟨U.heap.size, 0, none⟩) 1 1 _ rfl hnew (by intro u hu; simp at hu; rcases hu with rfl | rfl | rfl | rfl <;> rfl) (by omega)
        obtain ⟨A2, c2, rfl, _⟩ := own_form ho
        have HRUN := Lib.hid hrun
        have hcmU := H3.out.1.below hbU
        have hcmC := (hcmU.below hbB).grown hg (fun e => by have := HOX.out bc e; have := HS.out; have := hN3.row; have := HBC.out; omega)
        have hthU := H3.out.2.2.2.2.2.1.below hbU
        have hthB := hthU.below hbB
        have hthC : ThB UC (X + 1) [.int .i64 tk, .string tg, .string vl, .slice none 0 0] := (hg.block (X + 1) hthB.lt (fun e => by have := HOX.out (X + 1) e.symm; omega)).trans hthB
        have hbxB := cell_keep hbB (cell_keep hbU H3.out.2.2.2.2.1)
        have hbxC : UC.cell? ⟨X, 9, none⟩ = some (.slice K1 kl c1) := by
          rw [cell_heap (hg.block X (World.block_lt_of_cell? _ _ hbxB) (fun e => by have := HOX.out X e.symm; omega))]
          exact hbxB
        have hnumC := own_kept (own_below (own_below H3.out.2.1 hbU) hbB) hg (fun k hk hk2 => by have h1 := HOX.out k hk; injection hk2 with hk2; have h2 : bn = k := hk2; have := HS.out; omega)
        have hbelB := below_step (below_step H3.out.2.2.2.1 hbU) hbB
        have hbelC := hbelB.grown hg hbelB.size (fun k hk => by have := HOX.out k hk; have := HBC.out; omega)
        have hpush := hN3.push ⟨tk, tg, vl, []⟩ rfl (by rw [HX.out.2.2.2.2.2]; exact ho) hg hv
        have H5 : Hid (Cst W0 B S bc (.slice (some ⟨g, 0, none⟩) n cap) l (s + 1) (.slice (some ⟨bn, 0, none⟩) n nc) (.slice A2 (m + 1) c2) (P ++ [((⟨tk, tg, vl, []⟩ : Th), .slice none 0 0)]) (UC.setCell ⟨bc, 2, none⟩ (.slice A2 (m + 1) c2)) ∧ (UC.setCell ⟨bc, 2, none⟩ (.slice A2 (m + 1) c2)).cell? ⟨X, 9, none⟩ = some (.slice K1 kl c1)) := by
          refine ⟨⟨hcmC.set 2 _, ?_, fun k hk => ?_, HBC.out.2, ?_, hpush.setCell _ _ HBC.out.2, ?_, hbelC.setCell (p := ⟨bc, 2, none⟩) hbc _⟩, by rw [cell_heap (Below.heap_setCell _ _ _ _ (show X ≠ bc by have := HZ.out; omega))]; exact hbxC⟩
          · rw [hL.len]
            exact own_setCell hnumC _ _ (fun k hk => by injection hk with hk; subst hk; exact HS.out.1)
          · injection hk with hk; subst hk; exact ⟨HS.out.1, HS.out.2.1⟩
          · show S ≤ (UC.setCell _ _).heap.size
            have := hg.size
            simp only [World.setCell, Array.size_modify]
            omega
          · rw [List.length_append, HX.out.2.2.2.2.2, List.length_singleton, take_snoc HX.out.1, ntN_snoc, if_neg (by rw [HY.out.1]; exact h4), ← HX.out.2.2.2.2.1]
        have hSU : U.cell? ⟨bc, 2, none⟩ = some (.slice OA m oc) ∧ ThB U (X + 1) [.int .i64 tk, .string tg, .string vl, .slice none 0 0] := ⟨hcmU.cell 2 _ rfl, hthU⟩
        have hSB : UB.cell? ⟨bc, 2, none⟩ = some (.slice OA m oc) ∧ ThB UB (X + 1) [.int .i64 tk, .string tg, .string vl, .slice none 0 0] := ⟨cell_keep hbB hSU.1, hthB⟩
        have hSC : UC.cell? ⟨bc, 2, none⟩ = some (.slice OA m oc) ∧ ThB UC (X + 1) [.int .i64 tk, .string tg, .string vl, .slice none 0 0] := ⟨hcmC.cell 2 _ rfl, hthC⟩
        have fzC := hcmC.frozen 2
        clear hbU hbB hnew hN3 hrow3 hSUB hrun ho hg hv hcmU hcmC hthU hthB hthC hbxB hbxC hnumC hbelB hbelC hpush
        refine gen_act fun a0 hA => ?_
        have hsz : a0.tmps.size = 118 := by rw [hA]; rfl
        have e0 : a0.eval (.tmp 0) = .pointer (some ⟨bc, 0, none⟩) := by rw [hA]; rfl
        have e7 : a0.eval (.tmp 7) = .pointer (some ⟨X + 1, 0, none⟩) := by rw [hA]; rfl
        refine region_gate (fun Z => Z.cell? ⟨bc, 2, none⟩ = some (.slice OA m oc) ∧ ThB Z (X + 1) [.int .i64 tk, .string tg, .string vl, .slice none 0 0]) 10 (by kernel_rfl) ?_
        rw [hU]
        change wpGate _ _ _ _ _ _ 11 _ _ _
        refine gate_take0 (i := 0) (v := (.pointer (some ⟨bc, 0, none⟩))) rfl (by rfl) (by kernel_rfl) (by kernel_rfl) (by kernel_rfl) (fun _ _ _ h => h) rfl (fun Z => tmove_exec _ (.tmp 0) rfl _ _ (by simp [evp_same, evp_ne, szp, hsz, e0, e7]) Z) hSU ?_
        refine gate_take0 (i := 1) (v := (.pointer (some ⟨bc, 0, none⟩))) rfl (by rfl) (by kernel_rfl) (by kernel_rfl) (by kernel_rfl) (fun _ _ _ h => h) rfl (fun Z => tmove_exec _ (.tmp 0) rfl _ _ (by simp [evp_same, evp_ne, szp, hsz, e0, e7]) Z) hSU ?_
        refine gate_take0 (i := 2) (v := (.pointer (some ⟨bc, 0, none⟩))) rfl (by rfl) (by kernel_rfl) (by kernel_rfl) (by kernel_rfl) (fun _ _ _ h => h) rfl (fun Z => nil_exec _ (.tmp 79) rfl _ _ (by simp [evp_same, evp_ne, szp, hsz, e0, e7]) Z) hSU ?_
        refine gate_take0 (i := 3) (v := (.pointer (some ⟨bc, 2, none⟩))) rfl (by rfl) (by kernel_rfl) (by kernel_rfl) (by kernel_rfl) (fun _ _ _ h => h) rfl (fun Z => fieldC2_exec _ (.tmp 80) rfl _ bc (by simp [evp_same, evp_ne, szp, hsz, e0, e7]) Z) hSU ?_
        refine gate_take (i := 4) (v := (.slice OA m oc)) rfl (by rfl) (by kernel_rfl) (by kernel_rfl) (by kernel_rfl) (by kernel_rfl) (by kernel_rfl) (fun _ _ _ h => h) rfl (fun Z hZ => loadTs_exec _ (.tmp 81) rfl _ Z _ OA m oc (by simp [evp_same, evp_ne, szp, hsz, e0, e7]) hZ.1) hSU ?_
        refine gate_take (i := 5) (v := (.agg #[.int .i64 tk, .string tg, .string vl, .slice none 0 0])) rfl (by rfl) (by kernel_rfl) (by kernel_rfl) (by kernel_rfl) (by kernel_rfl) (by kernel_rfl) (fun _ _ _ h => h) rfl (fun Z hZ => loadTh_exec _ (.tmp 7) rfl _ Z (X + 1) _ _ _ _ (by simp [evp_same, evp_ne, szp, hsz, e0, e7]) hZ.2 (by simp [Value.oneCell'])) hSU ?_
        refine gate_one (i := 6) (by kernel_rfl) ?_
        have hbld : ∀ (o : Oper) (a : Act), o.op = .buildSlice 55 1 #[(0, .tmp 83)] → a.eval (.tmp 83) = .agg #[.int .i64 tk, .string tg, .string vl, .slice none 0 0] → (execOp a.eval o).run Try.prog U = .ok (.value (.slice (some ⟨U.heap.size, 0, none⟩) 1 1)) UB := fun o a ho hx => by rw [← hUB]; exact bldT_exec o _ ho a tk tg vl none 0 0 hx U
        refine wpOp_value rfl rfl (hbld _ _ rfl (by simp [evp_same, evp_ne, szp, hsz, e0, e7])) ⟨fun _ => hSB, ?_⟩
        refine gate_one (i := 7) (by kernel_rfl) ?_
        refine wpOp_value (w' := UC) (v := .slice A2 (m + 1) c2) rfl rfl (tappend_run _ _ (.tmp 82) (.tmp 84) 55 55 rfl (.slice OA m oc) (.slice (some ⟨U.heap.size, 0, none⟩) 1 1) _ UB UC HRUN.out (by simp [evp_same, evp_ne, szp, hsz, e0, e7]) (by simp [evp_same, evp_ne, szp, hsz, e0, e7])) ⟨fun _ => hSC, ?_⟩
        refine gate_one (i := 8) (by kernel_rfl) ?_
        refine wpOp_value (w' := UC) (v := (.pointer (some ⟨bc, 0, none⟩))) rfl rfl (nil_exec _ (.tmp 78) rfl _ _ (by simp [evp_same, evp_ne, szp, hsz, e0, e7]) UC) ⟨fun _ => hSC, ?_⟩
        refine gate_one (i := 9) (by kernel_rfl) ?_
        refine wpOp_value (w' := UC) (v := (.pointer (some ⟨bc, 2, none⟩))) rfl rfl (fieldC2_exec _ (.tmp 86) rfl _ bc (by simp [evp_same, evp_ne, szp, hsz, e0, e7]) UC) ⟨fun _ => hSC, ?_⟩
        refine gate_one (i := 10) (by kernel_rfl) ?_
        refine wpOp_skip rfl rfl (storeTs_exec _ (.tmp 87) (.tmp 85) rfl _ UC _ A2 (m + 1) c2 _ (by simp [evp_same, evp_ne, szp, hsz, e0, e7]) (by simp [evp_same, evp_ne, szp, hsz, e0, e7]) hSC.1 fzC) ⟨fun h => Bool.noConfusion (show true = false from h), ?_⟩
        refine tgate_gen fun a2 hA0 => ?_
        have hA2 : a2 = (((((((((((a0.put (some 78) (.pointer (some ⟨bc, 0, none⟩))).put (some 79) (.pointer (some ⟨bc, 0, none⟩))).put (some 80) (.pointer (some ⟨bc, 0, none⟩))).put (some 81) (.pointer (some ⟨bc, 2, none⟩))).put (some 82) (.slice OA m oc)).put (some 83) (.agg #[.int .i64 tk, .string tg, .string vl, .slice none 0 0])).put (some 84) (.slice (some ⟨U.heap.size, 0, none⟩) 1 1)).put (some 85) (.slice A2 (m + 1) c2)).put (some 86) (.pointer (some ⟨bc, 0, none⟩))).put (some 87) (.pointer (some ⟨bc, 2, none⟩))).put none undef) := hA0
        clear hA0
        refine gate_done (by kernel_rfl) ?_ _
        subst hA2 hA
        clear hsz e0 e7 hSU hSB hSC fzC hbld
        obtain ⟨UD, hUD⟩ : ∃ z, UC.setCell ⟨bc, 2, none⟩ (.slice A2 (m + 1) c2) = z := ⟨_, rfl⟩
        rw [hUD] at H5
        rw [hUD]
        clear hUD hUB hU HRUN
        simp only [Act.put, List.setIfInBounds_toArray, List.set_cons_zero, List.set_cons_succ]
        have x9 := H5.out.2
        go_wp2_with fail
        clear x9
        go_loopw [91] (fun u V' => ∃ (j p : Nat) (O1 : Value) (P1 : List TK), j ≤ kl ∧ u = .int .i64 (j : Int) ∧ Hid ((∀ k, x.kids[j]? = some k → k = (p : Int)) ∧ (kl = j → E s = p) ∧ s < p ∧ Cst W0 B S bc (.slice (some ⟨g, 0, none⟩) n cap) l p (.slice (some ⟨bn, 0, none⟩) n nc) O1 P1 V' ∧ P1.map Prod.fst = P.map Prod.fst ++ ⟨tk, tg, vl, kidN (nbrF l) (x.kids.take j)⟩ :: cmpL (nbrF l) (seg l (s + 1) p))) (fun u _ => kl - (intOf u).toNat)
        case atStart =>
          refine ⟨0, s + 1, _, _, Nat.zero_le _, rfl, fun k hk => ?_, fun h => ?_, by omega, H5.out.1, ?_⟩
          · obtain ⟨q0, _, _, _, _, q5⟩ := hE.kid HX.out.1 hk
            have := q5 rfl
            omega
          · have hr := hE.row HX.out.1
            have hk0 : x.kids = [] := List.eq_nil_of_length_eq_zero (by rw [HX.out.2.2.2.1]; exact h)
            rw [hk0] at hr
            exact (show s + 1 = E s from hr).symm
          · rw [List.map_append, List.take_zero, seg_self]
            rfl
        case round =>
          obtain ⟨j, p, O1, P1, hj, rfl, HR⟩ := hrel
          obtain ⟨V5, hV5⟩ : ∃ z, z = wr := ⟨_, rfl⟩
          subst hV5
          by_cases hlt : j < kl
          · have dj : (j : Int) < (kl : Int) := by omega
            obtain ⟨k, hk⟩ : ∃ z, x.kids[j]? = some z := ⟨x.kids[j]'(by rw [HX.out.2.2.2.1]; exact hlt), List.getElem?_eq_getElem _⟩
            obtain ⟨q0, q1, q2, q3, q4, _⟩ := hE.kid HX.out.1 hk
            have hkp := HR.out.1 k hk
            subst hkp
            rw [Int.toNat_natCast] at q1 q2 q3 q4
            have hEp := hE.lt q2
            have hEs := hE.last_le HX.out.1 _ j _ (Nat.le_refl _) hk
            rw [Int.toNat_natCast] at hEs
            obtain ⟨y, hy⟩ : ∃ z, l[p]? = some z := ⟨l[p], List.getElem?_eq_getElem q2⟩
            obtain ⟨kg, ko, rfl, hkc⟩ := (HK4.out.below HR.out.2.2.2.1.bel).addr (by rw [ki_len, HX.out.2.2.2.1]; omega)
            have ck := hkc j _ (ki_at hk)
            have hkt := kidN_take (es := nbrF l) hk q0 (by have := hpn.out; rw [HLN.out] at q2; omega)
            rw [Int.toNat_natCast] at hkt
            have CI := Lib.hid (IH.out p y O1 P1 V5 hy (by omega) HR.out.2.2.2.1)
            obtain ⟨r, hr⟩ : ∃ z, (nbrF l).getD p 0 = z := ⟨_, rfl⟩
            rw [hr] at hkt CI
            have HKT := Lib.hid (And.intro hkt (And.intro q3 (And.intro q4 hEp)))
            clear hkc hk hy hkt hr q3 q4
            go_wp2_with fail
            refine CI.out.mono ?_
            clear CI ck
            rintro e U1 ⟨rfl, O2, P2, hC2, hP2⟩
            rw [HR.out.2.2.2.2, List.append_assoc, List.cons_append, ← cmpL_app, seg_cat l (by omega) (by omega)] at hP2
            obtain ⟨kv, hp2⟩ := fst_at hP2
            rw [List.length_map, HX.out.2.2.2.2.2] at hp2
            obtain ⟨A3, c3, rfl, _⟩ := own_form hC2.out.row
            have hmz := (List.getElem?_eq_some_iff.1 hp2).1
            obtain ⟨z, hz⟩ : ∃ z, P2.length = z := ⟨_, rfl⟩
            rw [hz] at hC2 hmz
            have hrow := hC2.out.row
            rw [hz] at hrow
            obtain ⟨og, rfl, hog, hogl⟩ := row_addr hrow (by omega)
            obtain ⟨kn, hkn⟩ : ∃ z, (kidN (nbrF l) (x.kids.take j)).length = z := ⟨_, rfl⟩
            have hknl : kn ≤ kl := by rw [← hkn]; exact Nat.le_trans (kidN_len _ _) (by rw [List.length_take]; omega)
            have hkid := hC2.out.kid m _ hp2
            simp only at hkid
            rw [hkn] at hkid
            obtain ⟨AK, ck2, rfl, _⟩ := own_form hkid
            have cA : U1.cell? ⟨og, m * 4 + 3, none⟩ = some (.slice AK kn ck2) := by
              rw [hrow.cellAt _ (by omega), tksC_at P2 m 3 _ hp2 (by omega)]
              rfl
            have hoffk : ∀ k, Value.ownBlock (.slice AK kn ck2) = some k → k ≠ og := fun k hk e => hC2.out.off m _ k hp2 hk (by rw [e]; rfl)
            have hbK := own_base hkid
            obtain ⟨U, hU⟩ : ∃ z, U1.drew = z := ⟨_, rfl⟩
            have hbU : Below U1.heap.size U1 U := by rw [← hU]; exact (Below.refl _ _).drew
            obtain ⟨UB, hUB⟩ : ∃ z, U.alloc (.cells #[.int .i64 r] 3) = z := ⟨_, rfl⟩
            have hbB : Below U.heap.size U UB := by rw [← hUB]; exact (Below.refl _ _).alloc (Nat.le_refl _) _
            have hnew : RdC UB (some ⟨U.heap.size, 0, none⟩) [.int .i64 r] := by rw [← hUB]; exact RdC.new rfl (fun j v hv => by simpa using hv)
            have hCB := (hC2.below hbU).below hbB
            obtain ⟨v', UC, hrun, ho, hg, hv⟩ := run_append_rows Try.underlying22 int_info rfl (by omega) (by omega) UB S _ kn _ (own_below (own_below hkid hbU) hbB) hCB.sV (some ⟨U.heap.size, 0, none⟩) 1 1 [.int .i64 r] rfl hnew (by intro u hu; simp at hu; subst hu; rfl) (by omega)
            obtain ⟨A4, c4, rfl, _⟩ := own_form ho
            have HRUN := Lib.hid hrun
            have hcmC := hCB.cm.grown hg (fun e => by have := hbK bc e; have := hCB.bcS; omega)
            have hnumC := own_kept hCB.num hg (fun k hk hk2 => by have h1 := hbK k hk; have h2 := (hCB.numS k hk2).2; omega)
            have hmore := hCB.out.more hz hp2 r (by rw [hkn]; show UC.ownsRow S 3 1 (.slice A4 (kn + 1) c4) (kn + 1) _; rw [show ki (kidN (nbrF l) (x.kids.take j) ++ [r]) = ki (kidN (nbrF l) (x.kids.take j)) ++ [.int .i64 r] by simp [ki]]; exact ho) hg hv
            have hbelC := hCB.bel.grown hg hCB.bel.size (fun k hk => by have := hbK k hk; have := HBC.out; omega)
            have hcellC : UC.cell? ⟨og, m * 4 + 3, none⟩ = some (.slice AK kn ck2) := by
              have h1 := cell_keep hbB (cell_keep hbU cA)
              have h2 := World.block_lt_of_cell? _ _ h1
              rw [cell_heap (hg.block og h2 (fun e => hoffk og e.symm rfl))]
              exact h1
            have hfst := fst_set (t' := ⟨tk, tg, vl, kidN (nbrF l) (x.kids.take j) ++ [r]⟩) (v := .slice A4 (kn + 1) c4) hP2
            rw [List.length_map, HX.out.2.2.2.2.2] at hfst
            have H7 : Hid (Cst W0 B S bc (.slice (some ⟨g, 0, none⟩) n cap) l (E p) (.slice (some ⟨bn, 0, none⟩) n nc) (.slice (some ⟨og, 0, none⟩) z c3) (P2.set m ((⟨tk, tg, vl, kidN (nbrF l) (x.kids.take j) ++ [r]⟩ : Th), .slice A4 (kn + 1) c4)) (UC.setCell ⟨og, m * 4 + 3, none⟩ (.slice A4 (kn + 1) c4)) ∧ (P2.set m ((⟨tk, tg, vl, kidN (nbrF l) (x.kids.take j) ++ [r]⟩ : Th), Value.slice A4 (kn + 1) c4)).map Prod.fst = P.map Prod.fst ++ ⟨tk, tg, vl, kidN (nbrF l) (x.kids.take (j + 1))⟩ :: cmpL (nbrF l) (seg l (s + 1) (E p))) := by
              refine ⟨⟨hcmC.other (by have := hCB.bcS; omega) _ _, own_setCell hnumC _ _ (fun k hk => by have h2 := (hCB.numS k hk).2; show k ≠ og; omega), hCB.numS, hCB.bcS, ?_, hmore, by rw [List.length_set]; exact hCB.len, hbelC.setCell (p := ⟨og, m * 4 + 3, none⟩) (by show W0.heap.size ≤ og; have := HBC.out; omega) _⟩, by rw [HKT.out.1]; exact hfst⟩
              show S ≤ (UC.setCell _ _).heap.size
              have := hg.size
              have := hCB.sV
              simp only [World.setCell, Array.size_modify]
              omega
            have hSU : U.cell? ⟨bc, 2, none⟩ = some (.slice (some ⟨og, 0, none⟩) z c3) ∧ U.cell? ⟨og, m * 4 + 3, none⟩ = some (.slice AK kn ck2) := ⟨(hC2.below hbU).cm.cell 2 _ rfl, cell_keep hbU cA⟩
            have hSB : UB.cell? ⟨bc, 2, none⟩ = some (.slice (some ⟨og, 0, none⟩) z c3) ∧ UB.cell? ⟨og, m * 4 + 3, none⟩ = some (.slice AK kn ck2) := ⟨hCB.cm.cell 2 _ rfl, cell_keep hbB (cell_keep hbU cA)⟩
            have hSC : UC.cell? ⟨bc, 2, none⟩ = some (.slice (some ⟨og, 0, none⟩) z c3) ∧ UC.cell? ⟨og, m * 4 + 3, none⟩ = some (.slice AK kn ck2) := ⟨hcmC.cell 2 _ rfl, hcellC⟩
            have fzC : UC.frozen? ⟨og, m * 4 + 3, none⟩ = false := by
              have h := own_kept hCB.out.row hg (fun k hk hk2 => by injection hk2 with hk2; exact hoffk k hk hk2.symm)
              rw [hz] at h
              exact h.frozenAt _
            clear hP2 hp2 hrow hkn hkid cA hoffk hbK hbU hbB hnew hCB hrun ho hg hv hcmC hnumC hmore hbelC hcellC hfst hC2 hz
            go_wp2_with fail
            refine gen_act fun a0 hA => ?_
            have hsz : a0.tmps.size = 118 := by rw [hA]; rfl
            have e0 : a0.eval (.tmp 0) = .pointer (some ⟨bc, 0, none⟩) := by rw [hA]; rfl
            have e6 : a0.eval (.tmp 6) = .int .i64 (m : Int) := by rw [hA]; rfl
            have e10 : a0.eval (.tmp 10) = .int .i64 r := by rw [hA]; rfl
            refine region_gate (fun Z => Z.cell? ⟨bc, 2, none⟩ = some (.slice (some ⟨og, 0, none⟩) z c3) ∧ Z.cell? ⟨og, m * 4 + 3, none⟩ = some (.slice AK kn ck2)) 18 (by kernel_rfl) ?_
            rw [hU]
            change wpGate _ _ _ _ _ _ 19 _ _ _
            refine gate_take0 (i := 0) (v := (.pointer (some ⟨bc, 0, none⟩))) rfl (by rfl) (by kernel_rfl) (by kernel_rfl) (by kernel_rfl) (fun _ _ _ h => h) rfl (fun Z => tmove_exec _ (.tmp 0) rfl _ _ (by simp [evp_same, evp_ne, szp, hsz, e0, e6, e10]) Z) hSU ?_
            refine gate_take0 (i := 1) (v := (.pointer (some ⟨bc, 0, none⟩))) rfl (by rfl) (by kernel_rfl) (by kernel_rfl) (by kernel_rfl) (fun _ _ _ h => h) rfl (fun Z => nil_exec _ (.tmp 98) rfl _ _ (by simp [evp_same, evp_ne, szp, hsz, e0, e6, e10]) Z) hSU ?_
            refine gate_take0 (i := 2) (v := (.pointer (some ⟨bc, 2, none⟩))) rfl (by rfl) (by kernel_rfl) (by kernel_rfl) (by kernel_rfl) (fun _ _ _ h => h) rfl (fun Z => fieldC2_exec _ (.tmp 99) rfl _ bc (by simp [evp_same, evp_ne, szp, hsz, e0, e6, e10]) Z) hSU ?_
            refine gate_take0 (i := 4) (v := (.int .i64 (m : Int))) rfl (by rfl) (by kernel_rfl) (by kernel_rfl) (by kernel_rfl) (fun _ _ _ h => h) rfl (fun Z => tmove_exec _ (.tmp 6) rfl _ _ (by simp [evp_same, evp_ne, szp, hsz, e0, e6, e10]) Z) hSU ?_
            refine gate_take0 (i := 5) (v := (.pointer (some ⟨bc, 0, none⟩))) rfl (by rfl) (by kernel_rfl) (by kernel_rfl) (by kernel_rfl) (fun _ _ _ h => h) rfl (fun Z => tmove_exec _ (.tmp 0) rfl _ _ (by simp [evp_same, evp_ne, szp, hsz, e0, e6, e10]) Z) hSU ?_
            refine gate_take0 (i := 6) (v := (.pointer (some ⟨bc, 0, none⟩))) rfl (by rfl) (by kernel_rfl) (by kernel_rfl) (by kernel_rfl) (fun _ _ _ h => h) rfl (fun Z => nil_exec _ (.tmp 103) rfl _ _ (by simp [evp_same, evp_ne, szp, hsz, e0, e6, e10]) Z) hSU ?_
            refine gate_take0 (i := 7) (v := (.pointer (some ⟨bc, 2, none⟩))) rfl (by rfl) (by kernel_rfl) (by kernel_rfl) (by kernel_rfl) (fun _ _ _ h => h) rfl (fun Z => fieldC2_exec _ (.tmp 104) rfl _ bc (by simp [evp_same, evp_ne, szp, hsz, e0, e6, e10]) Z) hSU ?_
            refine gate_take0 (i := 9) (v := (.int .i64 (m : Int))) rfl (by rfl) (by kernel_rfl) (by kernel_rfl) (by kernel_rfl) (fun _ _ _ h => h) rfl (fun Z => tmove_exec _ (.tmp 6) rfl _ _ (by simp [evp_same, evp_ne, szp, hsz, e0, e6, e10]) Z) hSU ?_
            refine gate_take0 (i := 13) (v := (.int .i64 r)) rfl (by rfl) (by kernel_rfl) (by kernel_rfl) (by kernel_rfl) (fun _ _ _ h => h) rfl (fun Z => tmove_exec _ (.tmp 10) rfl _ _ (by simp [evp_same, evp_ne, szp, hsz, e0, e6, e10]) Z) hSU ?_
            refine gate_take (i := 3) (v := (.slice (some ⟨og, 0, none⟩) z c3)) rfl (by rfl) (by kernel_rfl) (by kernel_rfl) (by kernel_rfl) (by kernel_rfl) (by kernel_rfl) (fun _ _ _ h => h) rfl (fun Z hZ => loadTs_exec _ (.tmp 100) rfl _ Z _ _ z c3 (by simp [evp_same, evp_ne, szp, hsz, e0, e6, e10]) hZ.1) hSU ?_
            refine gate_take (i := 8) (v := (.slice (some ⟨og, 0, none⟩) z c3)) rfl (by rfl) (by kernel_rfl) (by kernel_rfl) (by kernel_rfl) (by kernel_rfl) (by kernel_rfl) (fun _ _ _ h => h) rfl (fun Z hZ => loadTs_exec _ (.tmp 105) rfl _ Z _ _ z c3 (by simp [evp_same, evp_ne, szp, hsz, e0, e6, e10]) hZ.1) hSU ?_
            refine gate_take0 (i := 10) (v := (.pointer (some ⟨og, m * 4, none⟩))) rfl (by rfl) (by kernel_rfl) (by kernel_rfl) (by kernel_rfl) (fun _ _ _ h => h) rfl (fun Z => ixT_exec _ (.tmp 106) (.tmp 107) rfl _ og z c3 m (by simp [evp_same, evp_ne, szp, hsz, e0, e6, e10]) (by simp [evp_same, evp_ne, szp, hsz, e0, e6, e10]) hmz Z) hSU ?_
            refine gate_take0 (i := 11) (v := (.pointer (some ⟨og, m * 4 + 3, none⟩))) rfl (by rfl) (by kernel_rfl) (by kernel_rfl) (by kernel_rfl) (fun _ _ _ h => h) rfl (fun Z => fieldTx_exec _ (.tmp 108) rfl _ og (m * 4) (by simp [evp_same, evp_ne, szp, hsz, e0, e6, e10]) Z) hSU ?_
            refine gate_take (i := 12) (v := (.slice AK kn ck2)) rfl (by rfl) (by kernel_rfl) (by kernel_rfl) (by kernel_rfl) (by kernel_rfl) (by kernel_rfl) (fun _ _ _ h => h) rfl (fun Z hZ => loadSl_exec _ (.tmp 109) rfl _ Z _ AK kn ck2 (by simp [evp_same, evp_ne, szp, hsz, e0, e6, e10]) hZ.2) hSU ?_
            refine gate_one (i := 14) (by kernel_rfl) ?_
            have hbld : ∀ (o : Oper) (a : Act), o.op = .buildSlice 22 1 #[(0, .tmp 111)] → a.eval (.tmp 111) = .int .i64 r → (execOp a.eval o).run Try.prog U = .ok (.value (.slice (some ⟨U.heap.size, 0, none⟩) 1 1)) UB := fun o a ho hx => by rw [← hUB]; exact bldI_exec o _ ho a r hx U
            refine wpOp_value rfl rfl (hbld _ _ rfl (by simp [evp_same, evp_ne, szp, hsz, e0, e6, e10])) ⟨fun _ => hSB, ?_⟩
            refine gate_one (i := 15) (by kernel_rfl) ?_
            refine wpOp_value (w' := UC) (v := .slice A4 (kn + 1) c4) rfl rfl (tappend_run _ _ (.tmp 110) (.tmp 112) 22 22 rfl (.slice AK kn ck2) (.slice (some ⟨U.heap.size, 0, none⟩) 1 1) _ UB UC HRUN.out (by simp [evp_same, evp_ne, szp, hsz, e0, e6, e10]) (by simp [evp_same, evp_ne, szp, hsz, e0, e6, e10])) ⟨fun _ => hSC, ?_⟩
            refine gate_one (i := 16) (by kernel_rfl) ?_
            refine wpOp_value (w' := UC) (v := (.pointer (some ⟨og, m * 4, none⟩))) rfl rfl (ixT_exec _ (.tmp 101) (.tmp 102) rfl _ og z c3 m (by simp [evp_same, evp_ne, szp, hsz, e0, e6, e10]) (by simp [evp_same, evp_ne, szp, hsz, e0, e6, e10]) hmz UC) ⟨fun _ => hSC, ?_⟩
            refine gate_one (i := 17) (by kernel_rfl) ?_
            refine wpOp_value (w' := UC) (v := (.pointer (some ⟨og, m * 4 + 3, none⟩))) rfl rfl (fieldTx_exec _ (.tmp 114) rfl _ og (m * 4) (by simp [evp_same, evp_ne, szp, hsz, e0, e6, e10]) UC) ⟨fun _ => hSC, ?_⟩
            refine gate_one (i := 18) (by kernel_rfl) ?_
            refine wpOp_skip rfl rfl (storeIs_exec _ (.tmp 115) (.tmp 113) rfl _ UC _ A4 (kn + 1) c4 _ (by simp [evp_same, evp_ne, szp, hsz, e0, e6, e10]) (by simp [evp_same, evp_ne, szp, hsz, e0, e6, e10]) hSC.2 fzC) ⟨fun h => Bool.noConfusion (show true = false from h), ?_⟩
            refine tgate_gen fun a2 hA0 => ?_
            have hA2 : a2 = (((((((((((((((((((a0.put (some 98) (.pointer (some ⟨bc, 0, none⟩))).put (some 99) (.pointer (some ⟨bc, 0, none⟩))).put (some 100) (.pointer (some ⟨bc, 2, none⟩))).put (some 102) (.int .i64 (m : Int))).put (some 103) (.pointer (some ⟨bc, 0, none⟩))).put (some 104) (.pointer (some ⟨bc, 0, none⟩))).put (some 105) (.pointer (some ⟨bc, 2, none⟩))).put (some 107) (.int .i64 (m : Int))).put (some 111) (.int .i64 r)).put (some 101) (.slice (some ⟨og, 0, none⟩) z c3)).put (some 106) (.slice (some ⟨og, 0, none⟩) z c3)).put (some 108) (.pointer (some ⟨og, m * 4, none⟩))).put (some 109) (.pointer (some ⟨og, m * 4 + 3, none⟩))).put (some 110) (.slice AK kn ck2)).put (some 112) (.slice (some ⟨U.heap.size, 0, none⟩) 1 1)).put (some 113) (.slice A4 (kn + 1) c4)).put (some 114) (.pointer (some ⟨og, m * 4, none⟩))).put (some 115) (.pointer (some ⟨og, m * 4 + 3, none⟩))).put none undef) := hA0
            clear hA0
            refine gate_done (by kernel_rfl) ?_ _
            subst hA2 hA
            clear hsz e0 e6 e10 hSU hSB hSC fzC hbld
            obtain ⟨UD, hUD⟩ : ∃ z, UC.setCell ⟨og, m * 4 + 3, none⟩ (.slice A4 (kn + 1) c4) = z := ⟨_, rfl⟩
            rw [hUD] at H7
            rw [hUD]
            clear hUD hUB hU HRUN
            simp only [Act.put, List.setIfInBounds_toArray, List.set_cons_zero, List.set_cons_succ]
            go_wp2_with fail
            first
            | (go_roundw
               case rel => exact ⟨j + 1, E p, _, _, by omega, by go_num, fun k' hk' => HKT.out.2.1 k' hk', fun h => HKT.out.2.2.1 (by rw [HX.out.2.2.2.1]; exact h), by have := HKT.out.2.2.2; omega, H7.out⟩
               case measure => simp [intOf]; omega)
            | exact ⟨⟨j + 1, E p, _, _, by omega, by go_num, fun k' hk' => HKT.out.2.1 k' hk', fun h => HKT.out.2.2.1 (by rw [HX.out.2.2.2.1]; exact h), by have := HKT.out.2.2.2; omega, H7.out⟩, by simp [intOf]; omega⟩
          · obtain rfl : j = kl := by omega
            have hEs := HR.out.2.1 rfl
            have hfin := HR.out.2.2.2.2
            rw [List.take_of_length_le (by rw [HX.out.2.2.2.1]; exact Nat.le_refl _), ← HTH.out] at hfin
            have hseg : cmpL (nbrF l) (seg l s p) = thOf (nbrF l) x :: cmpL (nbrF l) (seg l (s + 1) p) := by
              rw [← seg_cat l (show s ≤ s + 1 by omega) (show s + 1 ≤ p by have := HR.out.2.2.1; omega), cmpL_app, seg_one HX.out.1, cmpL_one, if_neg (by rw [HY.out.1]; exact h4)]
              rfl
            rw [← hseg] at hfin
            have HFIN : Hid (CtP W0 B S bc bn nc g n cap l s (E s) P ((nbrF l).getD s 0) (.returned (.int .i64 (m : Int))) V5) := by
              rw [hEs]
              exact ⟨by rw [HX.out.2.2.1], O1, P1, HR.out.2.2.2.1, hfin⟩
            clear hfin hseg hEs
            go_wp2_with fail
            go_ret
            exact HFIN.out
      · have hk0' : (kd == 0) = false := beq_eq_false_iff_ne.2 hk0
        go_upto_region 11 with fail
        obtain ⟨V3, hV3⟩ : ∃ z, V2.alloc (.cells #[.int .i64 kd, .string tg, .string vl, .slice none 0 0] 78) = z := ⟨_, rfl⟩
        rw [hV3]
        have H3 : Hid (CmB V3 bc [.slice (some ⟨g, 0, none⟩) n cap, .slice (some ⟨bn, 0, none⟩) n nc, .slice OA m oc] ∧ V3.ownsRow B 3 1 (.slice (some ⟨bn, 0, none⟩) n nc) n (ki (nM l (s + 1))) ∧ ThA S V3 (.slice OA m oc) P ∧ Below W0.heap.size W0 V3 ∧ V3.cell? ⟨X, 9, none⟩ = some (.slice K1 kl c1) ∧ ThB V3 (X + 1) [.int .i64 kd, .string tg, .string vl, .slice none 0 0] ∧ V3.heap.size = X + 2) := by
          have hb3 : Below V2.heap.size V2 V3 := by rw [← hV3]; exact (Below.refl _ _).alloc (Nat.le_refl _) _
          refine ⟨H2.out.1.below hb3, own_below H2.out.2.1 hb3, H2.out.2.2.1.below hb3, below_step H2.out.2.2.2.1 hb3, cell_keep hb3 (H2.out.2.2.2.2.1.cell 9 _ rfl), ?_, by rw [← hV3]; simp [hsz2]⟩
          rw [← hV3, ← hsz2]
          exact ThB.new V2 _
        have hth2 : thOf (nbrF l) x = ⟨kd, tg, vl, kidN (nbrF l) x.kids⟩ := by
          rw [HX.out.2.1]
          have : thK kd = kd := by unfold thK; rcases hkdi with h | h | h | h | h <;> first | (exact absurd h hk0) | (exact absurd h h4) | (subst h; rfl)
          rw [this]
        obtain ⟨tk, htk⟩ : ∃ z : Int, kd = z := ⟨_, rfl⟩
        have H3' : Hid (CmB V3 bc [.slice (some ⟨g, 0, none⟩) n cap, .slice (some ⟨bn, 0, none⟩) n nc, .slice OA m oc] ∧ V3.ownsRow B 3 1 (.slice (some ⟨bn, 0, none⟩) n nc) n (ki (nM l (s + 1))) ∧ ThA S V3 (.slice OA m oc) P ∧ Below W0.heap.size W0 V3 ∧ V3.cell? ⟨X, 9, none⟩ = some (.slice K1 kl c1) ∧ ThB V3 (X + 1) [.int .i64 tk, .string tg, .string vl, .slice none 0 0] ∧ V3.heap.size = X + 2) := by rw [← htk]; exact H3.out
        clear H3
        have H3 := H3'
        clear H3'
        have HTH : Hid (thOf (nbrF l) x = ⟨tk, tg, vl, kidN (nbrF l) x.kids⟩) := by rw [← htk]; exact hth2
        clear hth2 htk z0 z2 z4 hsz2 hk0' hkdi
        have HOX : Hid (∀ k, Value.ownBlock (.slice OA m oc) = some k → S ≤ k ∧ k < X + 1 ∧ k ≠ X) := fun k hk => ⟨own_base H3.out.2.2.1.row k hk, by have := HOX0.out k hk; omega, by have := HOX0.out k hk; omega⟩
        have HS := Lib.hid (And.intro HN.out.2.2.1 (And.intro HN.out.2.2.2 HZ.out))
        clear hV3
        obtain ⟨U, hU⟩ : ∃ z, V3.drew = z := ⟨_, rfl⟩
        have hbU : Below V3.heap.size V3 U := by rw [← hU]; exact (Below.refl _ _).drew
        obtain ⟨UB, hUB⟩ : ∃ z, U.alloc (.cells #[.int .i64 tk, .string tg, .string vl, .slice none 0 0] 78) = z := ⟨_, rfl⟩
        have hbB : Below U.heap.size U UB := by rw [← hUB]; exact (Below.refl _ _).alloc (Nat.le_refl _) _
        have hnew : RdC UB (some ⟨U.heap.size, 0, none⟩) [.int .i64 tk, .string tg, .string vl, .slice none 0 0] := by rw [← hUB]; exact RdC.new rfl (fun j v hv => by simpa using hv)
        have hN3 := (H3.out.2.2.1.below hbU).below hbB
        have hrow3 := hN3.row
        rw [HX.out.2.2.2.2.2] at hrow3
        have hSUB : S ≤ UB.heap.size := by have h1 := hbU.size; have h2 := hbB.size; have h3 := H3.out.2.2.2.2.2.2; have h4 := HZ.out.2.1; omega
        obtain ⟨v', UC, hrun, ho, hg, hv⟩ := run_append_rows Try.underlying55 thing_info rfl (by omega) (by omega) UB S _ m _ hrow3 hSUB (some ⟨U.heap.size, 0, none⟩) 1 1 _ rfl hnew (by intro u hu; simp at hu; rcases hu with rfl | rfl | rfl | rfl <;> rfl) (by omega)
        obtain ⟨A2, c2, rfl, _⟩ := own_form ho
        have HRUN := Lib.hid hrun
        have hcmU := H3.out.1.below hbU
        have hcmC := (hcmU.below hbB).grown hg (fun e => by have := HOX.out bc e; have := HS.out; have := hN3.row; have := HBC.out; omega)
        have hthU := H3.out.2.2.2.2.2.1.below hbU
        have hthB := hthU.below hbB
        have hthC : ThB UC (X + 1) [.int .i64 tk, .string tg, .string vl, .slice none 0 0] := (hg.block (X + 1) hthB.lt (fun e => by have := HOX.out (X + 1) e.symm; omega)).trans hthB
        have hbxB := cell_keep hbB (cell_keep hbU H3.out.2.2.2.2.1)
        have hbxC : UC.cell? ⟨X, 9, none⟩ = some (.slice K1 kl c1) := by
          rw [cell_heap (hg.block X (World.block_lt_of_cell? _ _ hbxB) (fun e => by have := HOX.out X e.symm; omega))]
          exact hbxB
        have hnumC := own_kept (own_below (own_below H3.out.2.1 hbU) hbB) hg (fun k hk hk2 => by have h1 := HOX.out k hk; injection hk2 with hk2; have h2 : bn = k := hk2; have := HS.out; omega)
        have hbelB := below_step (below_step H3.out.2.2.2.1 hbU) hbB
        have hbelC := hbelB.grown hg hbelB.size (fun k hk => by have := HOX.out k hk; have := HBC.out; omega)
        have hpush := hN3.push ⟨tk, tg, vl, []⟩ rfl (by rw [HX.out.2.2.2.2.2]; exact ho) hg hv
        have H5 : Hid (Cst W0 B S bc (.slice (some ⟨g, 0, none⟩) n cap) l (s + 1) (.slice (some ⟨bn, 0, none⟩) n nc) (.slice A2 (m + 1) c2) (P ++ [((⟨tk, tg, vl, []⟩ : Th), .slice none 0 0)]) (UC.setCell ⟨bc, 2, none⟩ (.slice A2 (m + 1) c2)) ∧ (UC.setCell ⟨bc, 2, none⟩ (.slice A2 (m + 1) c2)).cell? ⟨X, 9, none⟩ = some (.slice K1 kl c1)) := by
          refine ⟨⟨hcmC.set 2 _, ?_, fun k hk => ?_, HBC.out.2, ?_, hpush.setCell _ _ HBC.out.2, ?_, hbelC.setCell (p := ⟨bc, 2, none⟩) hbc _⟩, by rw [cell_heap (Below.heap_setCell _ _ _ _ (show X ≠ bc by have := HZ.out; omega))]; exact hbxC⟩
          · rw [hL.len]
            exact own_setCell hnumC _ _ (fun k hk => by injection hk with hk; subst hk; exact HS.out.1)
          · injection hk with hk; subst hk; exact ⟨HS.out.1, HS.out.2.1⟩
          · show S ≤ (UC.setCell _ _).heap.size
            have := hg.size
            simp only [World.setCell, Array.size_modify]
            omega
          · rw [List.length_append, HX.out.2.2.2.2.2, List.length_singleton, take_snoc HX.out.1, ntN_snoc, if_neg (by rw [HY.out.1]; exact h4), ← HX.out.2.2.2.2.1]
        have hSU : U.cell? ⟨bc, 2, none⟩ = some (.slice OA m oc) ∧ ThB U (X + 1) [.int .i64 tk, .string tg, .string vl, .slice none 0 0] := ⟨hcmU.cell 2 _ rfl, hthU⟩
        have hSB : UB.cell? ⟨bc, 2, none⟩ = some (.slice OA m oc) ∧ ThB UB (X + 1) [.int .i64 tk, .string tg, .string vl, .slice none 0 0] := ⟨cell_keep hbB hSU.1, hthB⟩
        have hSC : UC.cell? ⟨bc, 2, none⟩ = some (.slice OA m oc) ∧ ThB UC (X + 1) [.int .i64 tk, .string tg, .string vl, .slice none 0 0] := ⟨hcmC.cell 2 _ rfl, hthC⟩
        have fzC := hcmC.frozen 2
        clear hbU hbB hnew hN3 hrow3 hSUB hrun ho hg hv hcmU hcmC hthU hthB hthC hbxB hbxC hnumC hbelB hbelC hpush
        refine gen_act fun a0 hA => ?_
        have hsz : a0.tmps.size = 118 := by rw [hA]; rfl
        have e0 : a0.eval (.tmp 0) = .pointer (some ⟨bc, 0, none⟩) := by rw [hA]; rfl
        have e7 : a0.eval (.tmp 7) = .pointer (some ⟨X + 1, 0, none⟩) := by rw [hA]; rfl
        refine region_gate (fun Z => Z.cell? ⟨bc, 2, none⟩ = some (.slice OA m oc) ∧ ThB Z (X + 1) [.int .i64 tk, .string tg, .string vl, .slice none 0 0]) 10 (by kernel_rfl) ?_
        rw [hU]
        change wpGate _ _ _ _ _ _ 11 _ _ _
        refine gate_take0 (i := 0) (v := (.pointer (some ⟨bc, 0, none⟩))) rfl (by rfl) (by kernel_rfl) (by kernel_rfl) (by kernel_rfl) (fun _ _ _ h => h) rfl (fun Z => tmove_exec _ (.tmp 0) rfl _ _ (by simp [evp_same, evp_ne, szp, hsz, e0, e7]) Z) hSU ?_
        refine gate_take0 (i := 1) (v := (.pointer (some ⟨bc, 0, none⟩))) rfl (by rfl) (by kernel_rfl) (by kernel_rfl) (by kernel_rfl) (fun _ _ _ h => h) rfl (fun Z => tmove_exec _ (.tmp 0) rfl _ _ (by simp [evp_same, evp_ne, szp, hsz, e0, e7]) Z) hSU ?_
        refine gate_take0 (i := 2) (v := (.pointer (some ⟨bc, 0, none⟩))) rfl (by rfl) (by kernel_rfl) (by kernel_rfl) (by kernel_rfl) (fun _ _ _ h => h) rfl (fun Z => nil_exec _ (.tmp 79) rfl _ _ (by simp [evp_same, evp_ne, szp, hsz, e0, e7]) Z) hSU ?_
        refine gate_take0 (i := 3) (v := (.pointer (some ⟨bc, 2, none⟩))) rfl (by rfl) (by kernel_rfl) (by kernel_rfl) (by kernel_rfl) (fun _ _ _ h => h) rfl (fun Z => fieldC2_exec _ (.tmp 80) rfl _ bc (by simp [evp_same, evp_ne, szp, hsz, e0, e7]) Z) hSU ?_
        refine gate_take (i := 4) (v := (.slice OA m oc)) rfl (by rfl) (by kernel_rfl) (by kernel_rfl) (by kernel_rfl) (by kernel_rfl) (by kernel_rfl) (fun _ _ _ h => h) rfl (fun Z hZ => loadTs_exec _ (.tmp 81) rfl _ Z _ OA m oc (by simp [evp_same, evp_ne, szp, hsz, e0, e7]) hZ.1) hSU ?_
        refine gate_take (i := 5) (v := (.agg #[.int .i64 tk, .string tg, .string vl, .slice none 0 0])) rfl (by rfl) (by kernel_rfl) (by kernel_rfl) (by kernel_rfl) (by kernel_rfl) (by kernel_rfl) (fun _ _ _ h => h) rfl (fun Z hZ => loadTh_exec _ (.tmp 7) rfl _ Z (X + 1) _ _ _ _ (by simp [evp_same, evp_ne, szp, hsz, e0, e7]) hZ.2 (by simp [Value.oneCell'])) hSU ?_
        refine gate_one (i := 6) (by kernel_rfl) ?_
        have hbld : ∀ (o : Oper) (a : Act), o.op = .buildSlice 55 1 #[(0, .tmp 83)] → a.eval (.tmp 83) = .agg #[.int .i64 tk, .string tg, .string vl, .slice none 0 0] → (execOp a.eval o).run Try.prog U = .ok (.value (.slice (some ⟨U.heap.size, 0, none⟩) 1 1)) UB := fun o a ho hx => by rw [← hUB]; exact bldT_exec o _ ho a tk tg vl none 0 0 hx U
        refine wpOp_value rfl rfl (hbld _ _ rfl (by simp [evp_same, evp_ne, szp, hsz, e0, e7])) ⟨fun _ => hSB, ?_⟩
        refine gate_one (i := 7) (by kernel_rfl) ?_
        refine wpOp_value (w' := UC) (v := .slice A2 (m + 1) c2) rfl rfl (tappend_run _ _ (.tmp 82) (.tmp 84) 55 55 rfl (.slice OA m oc) (.slice (some ⟨U.heap.size, 0, none⟩) 1 1) _ UB UC HRUN.out (by simp [evp_same, evp_ne, szp, hsz, e0, e7]) (by simp [evp_same, evp_ne, szp, hsz, e0, e7])) ⟨fun _ => hSC, ?_⟩
        refine gate_one (i := 8) (by kernel_rfl) ?_
        refine wpOp_value (w' := UC) (v := (.pointer (some ⟨bc, 0, none⟩))) rfl rfl (nil_exec _ (.tmp 78) rfl _ _ (by simp [evp_same, evp_ne, szp, hsz, e0, e7]) UC) ⟨fun _ => hSC, ?_⟩
        refine gate_one (i := 9) (by kernel_rfl) ?_
        refine wpOp_value (w' := UC) (v := (.pointer (some ⟨bc, 2, none⟩))) rfl rfl (fieldC2_exec _ (.tmp 86) rfl _ bc (by simp [evp_same, evp_ne, szp, hsz, e0, e7]) UC) ⟨fun _ => hSC, ?_⟩
        refine gate_one (i := 10) (by kernel_rfl) ?_
        refine wpOp_skip rfl rfl (storeTs_exec _ (.tmp 87) (.tmp 85) rfl _ UC _ A2 (m + 1) c2 _ (by simp [evp_same, evp_ne, szp, hsz, e0, e7]) (by simp [evp_same, evp_ne, szp, hsz, e0, e7]) hSC.1 fzC) ⟨fun h => Bool.noConfusion (show true = false from h), ?_⟩
        refine tgate_gen fun a2 hA0 => ?_
        have hA2 : a2 = (((((((((((a0.put (some 78) (.pointer (some ⟨bc, 0, none⟩))).put (some 79) (.pointer (some ⟨bc, 0, none⟩))).put (some 80) (.pointer (some ⟨bc, 0, none⟩))).put (some 81) (.pointer (some ⟨bc, 2, none⟩))).put (some 82) (.slice OA m oc)).put (some 83) (.agg #[.int .i64 tk, .string tg, .string vl, .slice none 0 0])).put (some 84) (.slice (some ⟨U.heap.size, 0, none⟩) 1 1)).put (some 85) (.slice A2 (m + 1) c2)).put (some 86) (.pointer (some ⟨bc, 0, none⟩))).put (some 87) (.pointer (some ⟨bc, 2, none⟩))).put none undef) := hA0
        clear hA0
        refine gate_done (by kernel_rfl) ?_ _
        subst hA2 hA
        clear hsz e0 e7 hSU hSB hSC fzC hbld
        obtain ⟨UD, hUD⟩ : ∃ z, UC.setCell ⟨bc, 2, none⟩ (.slice A2 (m + 1) c2) = z := ⟨_, rfl⟩
        rw [hUD] at H5
        rw [hUD]
        clear hUD hUB hU HRUN
        simp only [Act.put, List.setIfInBounds_toArray, List.set_cons_zero, List.set_cons_succ]
        have x9 := H5.out.2
        go_wp2_with fail
        clear x9
        go_loopw [91] (fun u V' => ∃ (j p : Nat) (O1 : Value) (P1 : List TK), j ≤ kl ∧ u = .int .i64 (j : Int) ∧ Hid ((∀ k, x.kids[j]? = some k → k = (p : Int)) ∧ (kl = j → E s = p) ∧ s < p ∧ Cst W0 B S bc (.slice (some ⟨g, 0, none⟩) n cap) l p (.slice (some ⟨bn, 0, none⟩) n nc) O1 P1 V' ∧ P1.map Prod.fst = P.map Prod.fst ++ ⟨tk, tg, vl, kidN (nbrF l) (x.kids.take j)⟩ :: cmpL (nbrF l) (seg l (s + 1) p))) (fun u _ => kl - (intOf u).toNat)
        case atStart =>
          refine ⟨0, s + 1, _, _, Nat.zero_le _, rfl, fun k hk => ?_, fun h => ?_, by omega, H5.out.1, ?_⟩
          · obtain ⟨q0, _, _, _, _, q5⟩ := hE.kid HX.out.1 hk
            have := q5 rfl
            omega
          · have hr := hE.row HX.out.1
            have hk0 : x.kids = [] := List.eq_nil_of_length_eq_zero (by rw [HX.out.2.2.2.1]; exact h)
            rw [hk0] at hr
            exact (show s + 1 = E s from hr).symm
          · rw [List.map_append, List.take_zero, seg_self]
            rfl
        case round =>
          obtain ⟨j, p, O1, P1, hj, rfl, HR⟩ := hrel
          obtain ⟨V5, hV5⟩ : ∃ z, z = wr := ⟨_, rfl⟩
          subst hV5
          by_cases hlt : j < kl
          · have dj : (j : Int) < (kl : Int) := by omega
            obtain ⟨k, hk⟩ : ∃ z, x.kids[j]? = some z := ⟨x.kids[j]'(by rw [HX.out.2.2.2.1]; exact hlt), List.getElem?_eq_getElem _⟩
            obtain ⟨q0, q1, q2, q3, q4, _⟩ := hE.kid HX.out.1 hk
            have hkp := HR.out.1 k hk
            subst hkp
            rw [Int.toNat_natCast] at q1 q2 q3 q4
            have hEp := hE.lt q2
            have hEs := hE.last_le HX.out.1 _ j _ (Nat.le_refl _) hk
            rw [Int.toNat_natCast] at hEs
            obtain ⟨y, hy⟩ : ∃ z, l[p]? = some z := ⟨l[p], List.getElem?_eq_getElem q2⟩
            obtain ⟨kg, ko, rfl, hkc⟩ := (HK4.out.below HR.out.2.2.2.1.bel).addr (by rw [ki_len, HX.out.2.2.2.1]; omega)
            have ck := hkc j _ (ki_at hk)
            have hkt := kidN_take (es := nbrF l) hk q0 (by have := hpn.out; rw [HLN.out] at q2; omega)
            rw [Int.toNat_natCast] at hkt
            have CI := Lib.hid (IH.out p y O1 P1 V5 hy (by omega) HR.out.2.2.2.1)
            obtain ⟨r, hr⟩ : ∃ z, (nbrF l).getD p 0 = z := ⟨_, rfl⟩
            rw [hr] at hkt CI
            have HKT := Lib.hid (And.intro hkt (And.intro q3 (And.intro q4 hEp)))
            clear hkc hk hy hkt hr q3 q4
            go_wp2_with fail
            refine CI.out.mono ?_
            clear CI ck
            rintro e U1 ⟨rfl, O2, P2, hC2, hP2⟩
            rw [HR.out.2.2.2.2, List.append_assoc, List.cons_append, ← cmpL_app, seg_cat l (by omega) (by omega)] at hP2
            obtain ⟨kv, hp2⟩ := fst_at hP2
            rw [List.length_map, HX.out.2.2.2.2.2] at hp2
            obtain ⟨A3, c3, rfl, _⟩ := own_form hC2.out.row
            have hmz := (List.getElem?_eq_some_iff.1 hp2).1
            obtain ⟨z, hz⟩ : ∃ z, P2.length = z := ⟨_, rfl⟩
            rw [hz] at hC2 hmz
            have hrow := hC2.out.row
            rw [hz] at hrow
            obtain ⟨og, rfl, hog, hogl⟩ := row_addr hrow (by omega)
            obtain ⟨kn, hkn⟩ : ∃ z, (kidN (nbrF l) (x.kids.take j)).length = z := ⟨_, rfl⟩
            have hknl : kn ≤ kl := by rw [← hkn]; exact Nat.le_trans (kidN_len _ _) (by rw [List.length_take]; omega)
            have hkid := hC2.out.kid m _ hp2
            simp only at hkid
            rw [hkn] at hkid
            obtain ⟨AK, ck2, rfl, _⟩ := own_form hkid
            have cA : U1.cell? ⟨og, m * 4 + 3, none⟩ = some (.slice AK kn ck2) := by
              rw [hrow.cellAt _ (by omega), tksC_at P2 m 3 _ hp2 (by omega)]
              rfl
            have hoffk : ∀ k, Value.ownBlock (.slice AK kn ck2) = some k → k ≠ og := fun k hk e => hC2.out.off m _ k hp2 hk (by rw [e]; rfl)
            have hbK := own_base hkid
            obtain ⟨U, hU⟩ : ∃ z, U1.drew = z := ⟨_, rfl⟩
            have hbU : Below U1.heap.size U1 U := by rw [← hU]; exact (Below.refl _ _).drew
            obtain ⟨UB, hUB⟩ : ∃ z, U.alloc (.cells #[.int .i64 r] 3) = z := ⟨_, rfl⟩
            have hbB : Below U.heap.size U UB := by rw [← hUB]; exact (Below.refl _ _).alloc (Nat.le_refl _) _
            have hnew : RdC UB (some ⟨U.heap.size, 0, none⟩) [.int .i64 r] := by rw [← hUB]; exact RdC.new rfl (fun j v hv => by simpa using hv)
            have hCB := (hC2.below hbU).below hbB
            obtain ⟨v', UC, hrun, ho, hg, hv⟩ := run_append_rows Try.underlying22 int_info rfl (by omega) (by omega) UB S _ kn _ (own_below (own_below hkid hbU) hbB) hCB.sV (some ⟨U.heap.size, 0, none⟩) 1 1 [.int .i64 r] rfl hnew (by intro u hu; simp at hu; subst hu; rfl) (by omega)
            obtain ⟨A4, c4, rfl, _⟩ := own_form ho
            have HRUN := Lib.hid hrun
            have hcmC := hCB.cm.grown hg (fun e => by have := hbK bc e; have := hCB.bcS; omega)
            have hnumC := own_kept hCB.num hg (fun k hk hk2 => by have h1 := hbK k hk; have h2 := (hCB.numS k hk2).2; omega)
            have hmore := hCB.out.more hz hp2 r (by rw [hkn]; show UC.ownsRow S 3 1 (.slice A4 (kn + 1) c4) (kn + 1) _; rw [show ki (kidN (nbrF l) (x.kids.take j) ++ [r]) = ki (kidN (nbrF l) (x.kids.take j)) ++ [.int .i64 r] by simp [ki]]; exact ho) hg hv
            have hbelC := hCB.bel.grown hg hCB.bel.size (fun k hk => by have := hbK k hk; have := HBC.out; omega)
            have hcellC : UC.cell? ⟨og, m * 4 + 3, none⟩ = some (.slice AK kn ck2) := by
              have h1 := cell_keep hbB (cell_keep hbU cA)
              have h2 := World.block_lt_of_cell? _ _ h1
              rw [cell_heap (hg.block og h2 (fun e => hoffk og e.symm rfl))]
              exact h1
            have hfst := fst_set (t' := ⟨tk, tg, vl, kidN (nbrF l) (x.kids.take j) ++ [r]⟩) (v := .slice A4 (kn + 1) c4) hP2
            rw [List.length_map, HX.out.2.2.2.2.2] at hfst
            have H7 : Hid (Cst W0 B S bc (.slice (some ⟨g, 0, none⟩) n cap) l (E p) (.slice (some ⟨bn, 0, none⟩) n nc) (.slice (some ⟨og, 0, none⟩) z c3) (P2.set m ((⟨tk, tg, vl, kidN (nbrF l) (x.kids.take j) ++ [r]⟩ : Th), .slice A4 (kn + 1) c4)) (UC.setCell ⟨og, m * 4 + 3, none⟩ (.slice A4 (kn + 1) c4)) ∧ (P2.set m ((⟨tk, tg, vl, kidN (nbrF l) (x.kids.take j) ++ [r]⟩ : Th), Value.slice A4 (kn + 1) c4)).map Prod.fst = P.map Prod.fst ++ ⟨tk, tg, vl, kidN (nbrF l) (x.kids.take (j + 1))⟩ :: cmpL (nbrF l) (seg l (s + 1) (E p))) := by
              refine ⟨⟨hcmC.other (by have := hCB.bcS; omega) _ _, own_setCell hnumC _ _ (fun k hk => by have h2 := (hCB.numS k hk).2; show k ≠ og; omega), hCB.numS, hCB.bcS, ?_, hmore, by rw [List.length_set]; exact hCB.len, hbelC.setCell (p := ⟨og, m * 4 + 3, none⟩) (by show W0.heap.size ≤ og; have := HBC.out; omega) _⟩, by rw [HKT.out.1]; exact hfst⟩
              show S ≤ (UC.setCell _ _).heap.size
              have := hg.size
              have := hCB.sV
              simp only [World.setCell, Array.size_modify]
              omega
            have hSU : U.cell? ⟨bc, 2, none⟩ = some (.slice (some ⟨og, 0, none⟩) z c3) ∧ U.cell? ⟨og, m * 4 + 3, none⟩ = some (.slice AK kn ck2) := ⟨(hC2.below hbU).cm.cell 2 _ rfl, cell_keep hbU cA⟩
            have hSB : UB.cell? ⟨bc, 2, none⟩ = some (.slice (some ⟨og, 0, none⟩) z c3) ∧ UB.cell? ⟨og, m * 4 + 3, none⟩ = some (.slice AK kn ck2) := ⟨hCB.cm.cell 2 _ rfl, cell_keep hbB (cell_keep hbU cA)⟩
            have hSC : UC.cell? ⟨bc, 2, none⟩ = some (.slice (some ⟨og, 0, none⟩) z c3) ∧ UC.cell? ⟨og, m * 4 + 3, none⟩ = some (.slice AK kn ck2) := ⟨hcmC.cell 2 _ rfl, hcellC⟩
            have fzC : UC.frozen? ⟨og, m * 4 + 3, none⟩ = false := by
              have h := own_kept hCB.out.row hg (fun k hk hk2 => by injection hk2 with hk2; exact hoffk k hk hk2.symm)
              rw [hz] at h
              exact h.frozenAt _
            clear hP2 hp2 hrow hkn hkid cA hoffk hbK hbU hbB hnew hCB hrun ho hg hv hcmC hnumC hmore hbelC hcellC hfst hC2 hz
            go_wp2_with fail
            refine gen_act fun a0 hA => ?_
            have hsz : a0.tmps.size = 118 := by rw [hA]; rfl
            have e0 : a0.eval (.tmp 0) = .pointer (some ⟨bc, 0, none⟩) := by rw [hA]; rfl
            have e6 : a0.eval (.tmp 6) = .int .i64 (m : Int) := by rw [hA]; rfl
            have e10 : a0.eval (.tmp 10) = .int .i64 r := by rw [hA]; rfl
            refine region_gate (fun Z => Z.cell? ⟨bc, 2, none⟩ = some (.slice (some ⟨og, 0, none⟩) z c3) ∧ Z.cell? ⟨og, m * 4 + 3, none⟩ = some (.slice AK kn ck2)) 18 (by kernel_rfl) ?_
            rw [hU]
            change wpGate _ _ _ _ _ _ 19 _ _ _
            refine gate_take0 (i := 0) (v := (.pointer (some ⟨bc, 0, none⟩))) rfl (by rfl) (by kernel_rfl) (by kernel_rfl) (by kernel_rfl) (fun _ _ _ h => h) rfl (fun Z => tmove_exec _ (.tmp 0) rfl _ _ (by simp [evp_same, evp_ne, szp, hsz, e0, e6, e10]) Z) hSU ?_
            refine gate_take0 (i := 1) (v := (.pointer (some ⟨bc, 0, none⟩))) rfl (by rfl) (by kernel_rfl) (by kernel_rfl) (by kernel_rfl) (fun _ _ _ h => h) rfl (fun Z => nil_exec _ (.tmp 98) rfl _ _ (by simp [evp_same, evp_ne, szp, hsz, e0, e6, e10]) Z) hSU ?_
            refine gate_take0 (i := 2) (v := (.pointer (some ⟨bc, 2, none⟩))) rfl (by rfl) (by kernel_rfl) (by kernel_rfl) (by kernel_rfl) (fun _ _ _ h => h) rfl (fun Z => fieldC2_exec _ (.tmp 99) rfl _ bc (by simp [evp_same, evp_ne, szp, hsz, e0, e6, e10]) Z) hSU ?_
            refine gate_take0 (i := 4) (v := (.int .i64 (m : Int))) rfl (by rfl) (by kernel_rfl) (by kernel_rfl) (by kernel_rfl) (fun _ _ _ h => h) rfl (fun Z => tmove_exec _ (.tmp 6) rfl _ _ (by simp [evp_same, evp_ne, szp, hsz, e0, e6, e10]) Z) hSU ?_
            refine gate_take0 (i := 5) (v := (.pointer (some ⟨bc, 0, none⟩))) rfl (by rfl) (by kernel_rfl) (by kernel_rfl) (by kernel_rfl) (fun _ _ _ h => h) rfl (fun Z => tmove_exec _ (.tmp 0) rfl _ _ (by simp [evp_same, evp_ne, szp, hsz, e0, e6, e10]) Z) hSU ?_
            refine gate_take0 (i := 6) (v := (.pointer (some ⟨bc, 0, none⟩))) rfl (by rfl) (by kernel_rfl) (by kernel_rfl) (by kernel_rfl) (fun _ _ _ h => h) rfl (fun Z => nil_exec _ (.tmp 103) rfl _ _ (by simp [evp_same, evp_ne, szp, hsz, e0, e6, e10]) Z) hSU ?_
            refine gate_take0 (i := 7) (v := (.pointer (some ⟨bc, 2, none⟩))) rfl (by rfl) (by kernel_rfl) (by kernel_rfl) (by kernel_rfl) (fun _ _ _ h => h) rfl (fun Z => fieldC2_exec _ (.tmp 104) rfl _ bc (by simp [evp_same, evp_ne, szp, hsz, e0, e6, e10]) Z) hSU ?_
            refine gate_take0 (i := 9) (v := (.int .i64 (m : Int))) rfl (by rfl) (by kernel_rfl) (by kernel_rfl) (by kernel_rfl) (fun _ _ _ h => h) rfl (fun Z => tmove_exec _ (.tmp 6) rfl _ _ (by simp [evp_same, evp_ne, szp, hsz, e0, e6, e10]) Z) hSU ?_
            refine gate_take0 (i := 13) (v := (.int .i64 r)) rfl (by rfl) (by kernel_rfl) (by kernel_rfl) (by kernel_rfl) (fun _ _ _ h => h) rfl (fun Z => tmove_exec _ (.tmp 10) rfl _ _ (by simp [evp_same, evp_ne, szp, hsz, e0, e6, e10]) Z) hSU ?_
            refine gate_take (i := 3) (v := (.slice (some ⟨og, 0, none⟩) z c3)) rfl (by rfl) (by kernel_rfl) (by kernel_rfl) (by kernel_rfl) (by kernel_rfl) (by kernel_rfl) (fun _ _ _ h => h) rfl (fun Z hZ => loadTs_exec _ (.tmp 100) rfl _ Z _ _ z c3 (by simp [evp_same, evp_ne, szp, hsz, e0, e6, e10]) hZ.1) hSU ?_
            refine gate_take (i := 8) (v := (.slice (some ⟨og, 0, none⟩) z c3)) rfl (by rfl) (by kernel_rfl) (by kernel_rfl) (by kernel_rfl) (by kernel_rfl) (by kernel_rfl) (fun _ _ _ h => h) rfl (fun Z hZ => loadTs_exec _ (.tmp 105) rfl _ Z _ _ z c3 (by simp [evp_same, evp_ne, szp, hsz, e0, e6, e10]) hZ.1) hSU ?_
            refine gate_take0 (i := 10) (v := (.pointer (some ⟨og, m * 4, none⟩))) rfl (by rfl) (by kernel_rfl) (by kernel_rfl) (by kernel_rfl) (fun _ _ _ h => h) rfl (fun Z => ixT_exec _ (.tmp 106) (.tmp 107) rfl _ og z c3 m (by simp [evp_same, evp_ne, szp, hsz, e0, e6, e10]) (by simp [evp_same, evp_ne, szp, hsz, e0, e6, e10]) hmz Z) hSU ?_
            refine gate_take0 (i := 11) (v := (.pointer (some ⟨og, m * 4 + 3, none⟩))) rfl (by rfl) (by kernel_rfl) (by kernel_rfl) (by kernel_rfl) (fun _ _ _ h => h) rfl (fun Z => fieldTx_exec _ (.tmp 108) rfl _ og (m * 4) (by simp [evp_same, evp_ne, szp, hsz, e0, e6, e10]) Z) hSU ?_
            refine gate_take (i := 12) (v := (.slice AK kn ck2)) rfl (by rfl) (by kernel_rfl) (by kernel_rfl) (by kernel_rfl) (by kernel_rfl) (by kernel_rfl) (fun _ _ _ h => h) rfl (fun Z hZ => loadSl_exec _ (.tmp 109) rfl _ Z _ AK kn ck2 (by simp [evp_same, evp_ne, szp, hsz, e0, e6, e10]) hZ.2) hSU ?_
            refine gate_one (i := 14) (by kernel_rfl) ?_
            have hbld : ∀ (o : Oper) (a : Act), o.op = .buildSlice 22 1 #[(0, .tmp 111)] → a.eval (.tmp 111) = .int .i64 r → (execOp a.eval o).run Try.prog U = .ok (.value (.slice (some ⟨U.heap.size, 0, none⟩) 1 1)) UB := fun o a ho hx => by rw [← hUB]; exact bldI_exec o _ ho a r hx U
            refine wpOp_value rfl rfl (hbld _ _ rfl (by simp [evp_same, evp_ne, szp, hsz, e0, e6, e10])) ⟨fun _ => hSB, ?_⟩
            refine gate_one (i := 15) (by kernel_rfl) ?_
            refine wpOp_value (w' := UC) (v := .slice A4 (kn + 1) c4) rfl rfl (tappend_run _ _ (.tmp 110) (.tmp 112) 22 22 rfl (.slice AK kn ck2) (.slice (some ⟨U.heap.size, 0, none⟩) 1 1) _ UB UC HRUN.out (by simp [evp_same, evp_ne, szp, hsz, e0, e6, e10]) (by simp [evp_same, evp_ne, szp, hsz, e0, e6, e10])) ⟨fun _ => hSC, ?_⟩
            refine gate_one (i := 16) (by kernel_rfl) ?_
            refine wpOp_value (w' := UC) (v := (.pointer (some ⟨og, m * 4, none⟩))) rfl rfl (ixT_exec _ (.tmp 101) (.tmp 102) rfl _ og z c3 m (by simp [evp_same, evp_ne, szp, hsz, e0, e6, e10]) (by simp [evp_same, evp_ne, szp, hsz, e0, e6, e10]) hmz UC) ⟨fun _ => hSC, ?_⟩
            refine gate_one (i := 17) (by kernel_rfl) ?_
            refine wpOp_value (w' := UC) (v := (.pointer (some ⟨og, m * 4 + 3, none⟩))) rfl rfl (fieldTx_exec _ (.tmp 114) rfl _ og (m * 4) (by simp [evp_same, evp_ne, szp, hsz, e0, e6, e10]) UC) ⟨fun _ => hSC, ?_⟩
            refine gate_one (i := 18) (by kernel_rfl) ?_
            refine wpOp_skip rfl rfl (storeIs_exec _ (.tmp 115) (.tmp 113) rfl _ UC _ A4 (kn + 1) c4 _ (by simp [evp_same, evp_ne, szp, hsz, e0, e6, e10]) (by simp [evp_same, evp_ne, szp, hsz, e0, e6, e10]) hSC.2 fzC) ⟨fun h => Bool.noConfusion (show true = false from h), ?_⟩
            refine tgate_gen fun a2 hA0 => ?_
            have hA2 : a2 = (((((((((((((((((((a0.put (some 98) (.pointer (some ⟨bc, 0, none⟩))).put (some 99) (.pointer (some ⟨bc, 0, none⟩))).put (some 100) (.pointer (some ⟨bc, 2, none⟩))).put (some 102) (.int .i64 (m : Int))).put (some 103) (.pointer (some ⟨bc, 0, none⟩))).put (some 104) (.pointer (some ⟨bc, 0, none⟩))).put (some 105) (.pointer (some ⟨bc, 2, none⟩))).put (some 107) (.int .i64 (m : Int))).put (some 111) (.int .i64 r)).put (some 101) (.slice (some ⟨og, 0, none⟩) z c3)).put (some 106) (.slice (some ⟨og, 0, none⟩) z c3)).put (some 108) (.pointer (some ⟨og, m * 4, none⟩))).put (some 109) (.pointer (some ⟨og, m * 4 + 3, none⟩))).put (some 110) (.slice AK kn ck2)).put (some 112) (.slice (some ⟨U.heap.size, 0, none⟩) 1 1)).put (some 113) (.slice A4 (kn + 1) c4)).put (some 114) (.pointer (some ⟨og, m * 4, none⟩))).put (some 115) (.pointer (some ⟨og, m * 4 + 3, none⟩))).put none undef) := hA0
            clear hA0
            refine gate_done (by kernel_rfl) ?_ _
            subst hA2 hA
            clear hsz e0 e6 e10 hSU hSB hSC fzC hbld
            obtain ⟨UD, hUD⟩ : ∃ z, UC.setCell ⟨og, m * 4 + 3, none⟩ (.slice A4 (kn + 1) c4) = z := ⟨_, rfl⟩
            rw [hUD] at H7
            rw [hUD]
            clear hUD hUB hU HRUN
            simp only [Act.put, List.setIfInBounds_toArray, List.set_cons_zero, List.set_cons_succ]
            go_wp2_with fail
            first
            | (go_roundw
               case rel => exact ⟨j + 1, E p, _, _, by omega, by go_num, fun k' hk' => HKT.out.2.1 k' hk', fun h => HKT.out.2.2.1 (by rw [HX.out.2.2.2.1]; exact h), by have := HKT.out.2.2.2; omega, H7.out⟩
               case measure => simp [intOf]; omega)
            | exact ⟨⟨j + 1, E p, _, _, by omega, by go_num, fun k' hk' => HKT.out.2.1 k' hk', fun h => HKT.out.2.2.1 (by rw [HX.out.2.2.2.1]; exact h), by have := HKT.out.2.2.2; omega, H7.out⟩, by simp [intOf]; omega⟩
          · obtain rfl : j = kl := by omega
            have hEs := HR.out.2.1 rfl
            have hfin := HR.out.2.2.2.2
            rw [List.take_of_length_le (by rw [HX.out.2.2.2.1]; exact Nat.le_refl _), ← HTH.out] at hfin
            have hseg : cmpL (nbrF l) (seg l s p) = thOf (nbrF l) x :: cmpL (nbrF l) (seg l (s + 1) p) := by
              rw [← seg_cat l (show s ≤ s + 1 by omega) (show s + 1 ≤ p by have := HR.out.2.2.1; omega), cmpL_app, seg_one HX.out.1, cmpL_one, if_neg (by rw [HY.out.1]; exact h4)]
              rfl
            rw [← hseg] at hfin
            have HFIN : Hid (CtP W0 B S bc bn nc g n cap l s (E s) P ((nbrF l).getD s 0) (.returned (.int .i64 (m : Int))) V5) := by
              rw [hEs]
              exact ⟨by rw [HX.out.2.2.1], O1, P1, HR.out.2.2.2.1, hfin⟩
            clear hfin hseg hEs
            go_wp2_with fail
            go_ret
            exact HFIN.out
end
def kyN (l : List Gn) (k : Int) : Option Gn := if 0 ≤ k then l[k.toNat]? else none
/-- Among the keys ks[0], ks[2], .. ahead of the a-th there is one as x. -/
def ErK (l : List Gn) (ks : List Int) (a : Nat) (x : Gn) : Prop := ∃ b k y, b < a ∧ ks[2 * b]? = some k ∧ kyN l k = some y ∧ y.tag = x.tag ∧ y.value = x.value
theorem erK_zero {l : List Gn} {ks : List Int} {x : Gn} : ¬ ErK l ks 0 x := fun ⟨b, _, _, h, _⟩ => by omega
theorem two_succ {α : Type} (k q : α) (ks : List α) (a : Nat) : (k :: q :: ks)[2 * (a + 1)]? = ks[2 * a]? := by
  rw [show 2 * (a + 1) = 2 * a + 1 + 1 by omega]; rfl
theorem erK_cons {l : List Gn} {k q : Int} {ks : List Int} {a : Nat} {x : Gn} : ErK l (k :: q :: ks) (a + 1) x ↔ (∃ y, kyN l k = some y ∧ y.tag = x.tag ∧ y.value = x.value) ∨ ErK l ks a x := by
  constructor
  · rintro ⟨b, k', y, hb, h1, h2, h3⟩
    match b, hb, h1 with
    | 0, _, h1 => injection h1 with h1; subst h1; exact .inl ⟨y, h2, h3⟩
    | b + 1, hb, h1 => rw [two_succ] at h1; exact .inr ⟨b, k', y, by omega, h1, h2, h3⟩
  · rintro (⟨y, h2, h3⟩ | ⟨b, k', y, hb, h1, h2, h3⟩)
    · exact ⟨0, k, y, by omega, rfl, h2, h3⟩
    · exact ⟨b + 1, k', y, by omega, by rw [two_succ]; exact h1, h2, h3⟩
/-- Said twice within one Map's Kids. -/
def TwK (l : List Gn) (ks : List Int) (f : ByteArray → ByteArray → Bool) (i : Nat) : Prop :=
  ∃ a k x, ks[2 * a]? = some k ∧ kyN l k = some x ∧ k.toNat = i ∧ (f x.tag x.value = true ∨ ErK l ks a x)
theorem twK_cons {l : List Gn} {k q : Int} {ks : List Int} {f : ByteArray → ByteArray → Bool} {i : Nat} :
    TwK l (k :: q :: ks) f i ↔ (∃ x, kyN l k = some x ∧ k.toNat = i ∧ f x.tag x.value = true) ∨ ∃ a k' x, ks[2 * a]? = some k' ∧ kyN l k' = some x ∧ k'.toNat = i ∧ (f x.tag x.value = true ∨ (∃ y, kyN l k = some y ∧ y.tag = x.tag ∧ y.value = x.value) ∨ ErK l ks a x) := by
  constructor
  · rintro ⟨a, k', x, h1, h2, h3, h4⟩
    match a, h1, h4 with
    | 0, h1, h4 =>
      injection h1 with h1; subst h1
      rcases h4 with h4 | h4
      · exact .inl ⟨x, h2, h3, h4⟩
      · exact absurd h4 erK_zero
    | a + 1, h1, h4 => rw [two_succ] at h1; rw [erK_cons] at h4; exact .inr ⟨a, k', x, h1, h2, h3, h4⟩
  · rintro (⟨x, h2, h3, h4⟩ | ⟨a, k', x, h1, h2, h3, h4⟩)
    · exact ⟨0, k, x, rfl, h2, h3, .inl h4⟩
    · exact ⟨a + 1, k', x, by rw [two_succ]; exact h1, h2, h3, by rw [erK_cons]; exact h4⟩
theorem getD_set_true {R : List Bool} {j i : Nat} (hi : i < R.length) : (R.set j true).getD i false = true ↔ R.getD i false = true ∨ j = i := by
  rw [List.getD_eq_getElem?_getD, List.getD_eq_getElem?_getD]
  by_cases e : j = i
  · subst e; rw [List.getElem?_set_self hi]; simp
  · rw [List.getElem?_set_ne e]; simp [e]
theorem addN_true {f : ByteArray → ByteArray → Bool} {t v t' v' : ByteArray} : addN f t v t' v' = true ↔ f t' v' = true ∨ (t = t' ∧ v = v') := by
  unfold addN
  simp only [Bool.or_eq_true, decide_eq_true_eq]
  constructor
  · rintro (⟨rfl, rfl⟩ | h)
    · exact .inr ⟨rfl, rfl⟩
    · exact .inl h
  · rintro (h | ⟨rfl, rfl⟩)
    · exact .inr h
    · exact .inl ⟨rfl, rfl⟩
theorem mkF_true {l : List Gn} : ∀ (ks : List Int) (f : ByteArray → ByteArray → Bool) (R : List Bool) (i : Nat), i < R.length → ((mkF l ks f R).getD i false = true ↔ R.getD i false = true ∨ TwK l ks f i)
  | [], f, R, i, hi => by
    rw [mkF]
    exact ⟨.inl, fun h => h.elim id (fun ⟨a, k, x, h1, _⟩ => by simp at h1)⟩
  | [k], f, R, i, hi => by
    have one : TwK l [k] f i ↔ ∃ x, kyN l k = some x ∧ k.toNat = i ∧ f x.tag x.value = true := by
      constructor
      · rintro ⟨a, k', x, h1, h2, h3, h4⟩
        match a, h1, h4 with
        | 0, h1, h4 =>
          injection h1 with h1; subst h1
          rcases h4 with h4 | h4
          · exact ⟨x, h2, h3, h4⟩
          · exact absurd h4 erK_zero
        | a + 1, h1, _ => rw [show 2 * (a + 1) = 2 * a + 1 + 1 by omega] at h1; simp at h1
      · rintro ⟨x, h2, h3, h4⟩; exact ⟨0, k, x, rfl, h2, h3, .inl h4⟩
    rw [one, mkF]
    change ((match kyN l k with | some x => if f x.tag x.value = true then R.set k.toNat true else R | none => R).getD i false = true) ↔ _
    cases hk : kyN l k with
    | none => simp
    | some x =>
      simp only [Option.some.injEq, exists_eq_left']
      by_cases hf : f x.tag x.value = true
      · rw [if_pos hf, getD_set_true hi]; simp [hf]
      · rw [if_neg hf]; simp [hf]
  | k :: q :: ks, f, R, i, hi => by
    rw [twK_cons, mkF]
    change ((match kyN l k with | some x => mkF l ks (addN f x.tag x.value) (if f x.tag x.value = true then R.set k.toNat true else R) | none => mkF l ks f R).getD i false = true) ↔ _
    cases hk : kyN l k with
    | none =>
      simp only
      rw [mkF_true ks f R i hi]
      simp [TwK]
    | some x0 =>
      simp only
      rw [mkF_true ks _ _ i (by split <;> simp [hi])]
      have hR : (if f x0.tag x0.value = true then R.set k.toNat true else R).getD i false = true ↔ R.getD i false = true ∨ (k.toNat = i ∧ f x0.tag x0.value = true) := by
        by_cases hf : f x0.tag x0.value = true
        · rw [if_pos hf, getD_set_true hi]; simp [hf]
        · rw [if_neg hf]; simp [hf]
      rw [hR]
      simp only [TwK, addN_true, Option.some.injEq, exists_eq_left', or_assoc]
theorem rp_true {l : List Gn} : ∀ (m : List Gn) (R : List Bool) (i : Nat), i < R.length → ((m.foldl (rpS l) R).getD i false = true ↔ R.getD i false = true ∨ ∃ x ∈ m, x.kind = 3 ∧ TwK l x.kids (fun _ _ => false) i)
  | [], R, i, hi => by simp
  | x :: m, R, i, hi => by
    rw [List.foldl_cons, rp_true m _ i (by rw [rpS_len]; exact hi)]
    have h1 : (rpS l R x).getD i false = true ↔ R.getD i false = true ∨ (x.kind = 3 ∧ TwK l x.kids (fun _ _ => false) i) := by
      unfold rpS
      by_cases h3 : x.kind = 3
      · rw [if_pos h3, mkF_true _ _ _ i hi]; simp [h3]
      · rw [if_neg h3]; simp [h3]
    rw [h1]
    simp only [List.mem_cons, exists_eq_or_imp, or_assoc]
/-- A key that is said twice: within its Map there is one ahead of it with its Tag and its Value. -/
theorem repF_true {l : List Gn} {i : Nat} (hi : i < l.length) : (repF l).getD i false = true ↔ ∃ x ∈ l, x.kind = 3 ∧ TwK l x.kids (fun _ _ => false) i := by
  unfold repF
  rw [rp_true _ _ i (by rw [List.length_replicate]; exact hi)]
  have : (List.replicate l.length false).getD i false = false := by
    rw [List.getD_eq_getElem?_getD, List.getElem?_replicate]
    split <;> rfl
  rw [this]
  simp
section
variable {l : List Gn} {E : Nat → Nat}
theorem GE.parent_lt (h : GE l E) {p p' j j' : Nat} {x y : Gn} {k : Int} (hx : l[p]? = some x) (hy : l[p']? = some y) (hk : x.kids[j]? = some k) (hk' : y.kids[j']? = some k) : ¬ p < p' := by
  intro hlt
  have hp' := (List.getElem?_eq_some_iff.1 hy).1
  obtain ⟨q0, q1, q2, _⟩ := h.kid hy hk'
  have h1 := h.apart hx hlt hp' (List.mem_of_getElem? hk)
  have h2 := h.last_le hy _ j' k (Nat.le_refl _) hk'
  have h3 := (h.lt q2).1
  omega
theorem GE.place_lt (h : GE l E) {p j j' : Nat} {x : Gn} {k : Int} (hx : l[p]? = some x) (hk : x.kids[j]? = some k) (hk' : x.kids[j']? = some k) : ¬ j < j' := by
  intro hlt
  have hj' := (List.getElem?_eq_some_iff.1 hk').1
  obtain ⟨q0, q1, q2, q3, _⟩ := h.kid hx hk
  have hn := List.getElem?_eq_getElem (show j + 1 < x.kids.length by omega)
  have h1 := q3 _ hn
  rw [h1] at hn
  have h2 := h.kids_up hx j' (j + 1) _ _ (by omega) hn hk'
  have h3 := (h.lt q2).1
  omega
theorem GE.one_parent (h : GE l E) {p p' j j' : Nat} {x y : Gn} {k : Int} (hx : l[p]? = some x) (hy : l[p']? = some y) (hk : x.kids[j]? = some k) (hk' : y.kids[j']? = some k) : p = p' ∧ j = j' := by
  have h1 := h.parent_lt hx hy hk hk'
  have h2 := h.parent_lt hy hx hk' hk
  obtain rfl : p = p' := by omega
  obtain rfl : x = y := by rw [hx] at hy; injection hy
  have h3 := h.place_lt hx hk hk'
  have h4 := h.place_lt hx hk' hk
  exact ⟨rfl, by omega⟩
end
theorem rep_parent {l : List Gn} {E : Nat → Nat} (hE : GE l E) {i p j : Nat} {x y : Gn} (hx : l[i]? = some x) (hy : l[p]? = some y) (hk : y.kids[j]? = some (i : Int)) :
    (repF l).getD i false = true ↔ y.kind = 3 ∧ ∃ a, j = 2 * a ∧ ErK l y.kids a x := by
  rw [repF_true (List.getElem?_eq_some_iff.1 hx).1]
  constructor
  · rintro ⟨z, hz, h3, a, k, x', h1, h2, h4, h5⟩
    obtain ⟨p', hp'⟩ := List.mem_iff_getElem?.1 hz
    have hk0 := hE.pos z hz k (List.mem_of_getElem? h1)
    have : k = (i : Int) := by omega
    subst this
    obtain ⟨rfl, rfl⟩ := hE.one_parent hp' hy h1 hk
    rw [hp'] at hy; injection hy with hy; subst hy
    unfold kyN at h2
    rw [if_pos hk0, Int.toNat_natCast, hx] at h2
    injection h2 with h2; subst h2
    rcases h5 with h5 | h5
    · cases h5
    · exact ⟨h3, a, rfl, h5⟩
  · rintro ⟨h3, a, rfl, h5⟩
    exact ⟨y, List.mem_of_getElem? hy, h3, a, (i : Int), x, hk, by unfold kyN; rw [if_pos (by omega), Int.toNat_natCast, hx], Int.toNat_natCast i, .inr h5⟩
theorem rep_none {l : List Gn} {E : Nat → Nat} (hE : GE l E) {i : Nat} (hi : i < l.length) (h : ∀ y ∈ l, (i : Int) ∉ y.kids) : (repF l).getD i false = false := by
  cases hb : (repF l).getD i false with
  | false => rfl
  | true =>
    obtain ⟨z, hz, _, a, k, x', h1, _, h4, _⟩ := (repF_true hi).1 hb
    have hm := List.mem_of_getElem? h1
    have hk0 := hE.pos z hz k hm
    have : k = (i : Int) := by omega
    subst this
    exact absurd hm (h z hz)
theorem ahd_take {l : List Gn} {s : ByteArray} {i : Nat} : ahdF (ancF l) s (i : Int) = true ↔ s.size ≠ 0 ∧ ∃ y ∈ l.take i, y.anchor = s := by
  unfold ahdF ancF
  by_cases h0 : s.size = 0
  · rw [if_pos h0]; simp [h0]
  · rw [if_neg h0]
    cases hf : l.findIdx? fun x => decide (x.anchor = s) with
    | none =>
      rw [List.findIdx?_eq_none_iff] at hf
      simp only [Option.map_none]
      refine ⟨fun h => (by cases h), fun ⟨_, y, hy, e⟩ => ?_⟩
      have := hf y (List.mem_of_mem_take hy)
      simp [e] at this
    | some k =>
      simp only [Option.map_some, decide_eq_true_eq]
      rw [List.findIdx?_eq_some_iff_getElem] at hf
      obtain ⟨hl, h1, h2⟩ := hf
      refine ⟨fun h => ⟨h0, l[k], ?_, by simpa using h1⟩, fun ⟨_, y, hy, e⟩ => ?_⟩
      · exact List.mem_iff_getElem?.2 ⟨k, by rw [List.getElem?_take]; rw [if_pos (by omega)]; exact List.getElem?_eq_getElem hl⟩
      · obtain ⟨j, hj⟩ := List.mem_iff_getElem?.1 hy
        rw [List.getElem?_take] at hj
        split at hj
        · rename_i hji
          by_cases hkj : k ≤ j
          · omega
          · have h3 := h2 j (by omega)
            have hjl := (List.getElem?_eq_some_iff.1 hj)
            obtain ⟨hjl, e2⟩ := hjl
            rw [e2] at h3
            simp [e] at h3
        · cases hj
/-- What it answers: none has this Kid, or one that has, and where. -/
def RPar (l : List Gn) (k : Int) (p q : Int) : Prop :=
  (p = -1 ∧ q = -1 ∧ ∀ x ∈ l, k ∉ x.kids) ∨ ∃ (i j : Nat) (x : Gn), p = (i : Int) ∧ q = (j : Int) ∧ l[i]? = some x ∧ x.kids[j]? = some k
theorem not_mem_take_succ {α : Type} {l : List α} {t : Nat} {x y : α} (hx : l[t]? = some x) (h : y ∉ l.take t) (hne : ¬ x = y) : y ∉ l.take (t + 1) := by
  have ht := (List.getElem?_eq_some_iff.1 hx).1
  rw [List.take_add_one, hx]
  intro hm
  rcases List.mem_append.1 hm with hm | hm
  · exact h hm
  · simp at hm; exact hne hm.symm
set_option maxHeartbeats 8000000 in
theorem rparent_at {W : World} {A : Option Addr} {n cap : Nat} {l : List Gn} (hL : GL W A n cap l) (hS : Small l) (hn : n ≤ 1000000) (k : Int) :
    Calls Try.prog 19 #[.slice A n cap, .int .i64 k] W fun e w' => ∃ p q, e = .returned (.tuple #[.int .i64 p, .int .i64 q]) ∧ Hid (RPar l k p q) ∧ W = w' := by
  have hle := hL.le
  have hmx := hL.max
  have HL := Lib.hid hL
  have HS := Lib.hid hS
  clear hL hS
  go_enter Try.func19, Try.ntmps19
  go_wp2_with fail
  go_loopw [10] (fun u V => ∃ t : Nat, t ≤ n ∧ u = .int .i64 (t : Int) ∧ Hid (V = W ∧ ∀ x ∈ l.take t, k ∉ x.kids)) (fun u _ => n - (intOf u).toNat)
  case atStart => exact ⟨0, Nat.zero_le _, rfl, rfl, fun x hx => by rw [List.take_zero] at hx; cases hx⟩
  case round =>
    obtain ⟨t, ht, rfl, HR⟩ := hrel
    obtain ⟨V, hV⟩ : ∃ z, z = wr := ⟨_, rfl⟩
    subst hV
    obtain rfl : V = W := HR.out.1
    by_cases hlt : t < n
    · have dt : (t : Int) < (n : Int) := by omega
      obtain ⟨x, hx⟩ : ∃ z, l[t]? = some z := ⟨l[t]'(by rw [HL.out.len]; exact hlt), List.getElem?_eq_getElem _⟩
      obtain ⟨g1, o1, rfl, K1, c1, a1, a2, a3, a4, a5⟩ := HL.out.at_ t x hx
      have x9 := a5 9 _ rfl
      obtain ⟨kl, hkl⟩ : ∃ z, x.kids.length = z := ⟨_, rfl⟩
      have hkl2 := (HS.out x (List.mem_of_getElem? hx)).1
      rw [hkl] at x9 a1 hkl2
      have HX := Lib.hid (And.intro hx (And.intro hkl a4))
      clear a4 a5 hx hkl
      go_wp2_with fail
      go_loopw [19] (fun u V' => ∃ j : Nat, j ≤ kl ∧ u = .int .i64 (j : Int) ∧ Hid (V' = V ∧ k ∉ x.kids.take j)) (fun u _ => kl - (intOf u).toNat)
      case atStart => exact ⟨0, Nat.zero_le _, rfl, rfl, by rw [List.take_zero]; exact List.not_mem_nil⟩
      case round =>
        obtain ⟨j, hj, rfl, HU⟩ := hrel
        obtain ⟨U, hU⟩ : ∃ z, z = wr := ⟨_, rfl⟩
        subst hU
        obtain rfl : U = V := HU.out.1
        by_cases hlj : j < kl
        · have dj : (j : Int) < (kl : Int) := by omega
          obtain ⟨z, hz⟩ : ∃ z, x.kids[j]? = some z := ⟨x.kids[j]'(by rw [HX.out.2.1]; exact hlj), List.getElem?_eq_getElem _⟩
          obtain ⟨kg, ko, rfl, hkc⟩ := HX.out.2.2.addr (by rw [ki_len, HX.out.2.1]; omega)
          have yk := hkc j _ (ki_at hz)
          have HZ := Lib.hid hz
          clear hkc hz
          by_cases hzk : z = k
          · subst hzk
            go_wp2_with fail
            go_ret2
            exact ⟨_, _, rfl, .inr ⟨t, j, x, rfl, rfl, HX.out.1, HZ.out⟩, rfl⟩
          · have hzk' : (z == k) = false := beq_eq_false_iff_ne.2 hzk
            go_wp2_with fail
            go_roundw
            case rel => exact ⟨j + 1, by omega, by go_num, by trivial, not_mem_take_succ HZ.out HU.out.2 hzk⟩
            case measure => simp [intOf]; omega
        · obtain rfl : j = kl := by omega
          go_wp2_with fail
          go_roundw
          case rel =>
            refine ⟨t + 1, by omega, by go_num, by trivial, fun y hy => ?_⟩
            rw [take_snoc HX.out.1] at hy
            rcases List.mem_append.1 hy with hy | hy
            · exact HR.out.2 y hy
            · simp at hy; subst hy
              have := HU.out.2
              rwa [List.take_of_length_le (by rw [HX.out.2.1]; exact Nat.le_refl _)] at this
          case measure => simp [intOf]; omega
    · obtain rfl : t = n := by omega
      go_wp2_with fail
      go_ret2
      refine ⟨_, _, rfl, .inl ⟨rfl, rfl, ?_⟩, rfl⟩
      have := HR.out.2
      rwa [List.take_of_length_le (by rw [HL.out.len]; exact Nat.le_refl _)] at this
theorem mem_take_next {l : List Gn} {k : Nat} {y : Gn} (hy : l[k]? = some y) {P : Gn → Prop} : (∃ z ∈ l.take (k + 1), P z) ↔ (∃ z ∈ l.take k, P z) ∨ P y := by
  rw [take_snoc hy]
  constructor
  · rintro ⟨z, hz, hp⟩
    rcases List.mem_append.1 hz with hz | hz
    · exact .inl ⟨z, hz, hp⟩
    · simp at hz; subst hz; exact .inr hp
  · rintro (⟨z, hz, hp⟩ | hp)
    · exact ⟨z, List.mem_append_left _ hz, hp⟩
    · exact ⟨y, List.mem_append_right _ (List.mem_singleton.2 rfl), hp⟩
theorem mem_take_le {l : List Gn} {a b : Nat} (h : a ≤ b) {z : Gn} (hz : z ∈ l.take a) : z ∈ l.take b := by
  obtain ⟨i, hi⟩ := List.mem_iff_getElem?.1 hz
  rw [List.getElem?_take] at hi
  split at hi
  · exact List.mem_iff_getElem?.2 ⟨i, by rw [List.getElem?_take, if_pos (by omega)]; exact hi⟩
  · cases hi
set_option maxHeartbeats 16000000 in
theorem rcheck_at {W : World} {A : Option Addr} {n cap : Nat} {l : List Gn} {E : Nat → Nat} (hL : GL W A n cap l) (hE : GE l E) (hT : TxG l) (hS : Small l) (hn : n ≤ 1000000) :
    Calls Try.prog 29 #[.slice A n cap] W fun e w' => e = .returned (.tuple #[.int .i64 (ckF l).1, .int .i64 (ckF l).2]) ∧ Below W.heap.size W w' := by
  have hle := hL.le
  have hmx := hL.max
  have HL := Lib.hid hL
  have HE := Lib.hid hE
  have HT := Lib.hid hT
  have HS := Lib.hid hS
  clear hL hE hT hS
  go_enter Try.func29, Try.ntmps29
  go_wp2_with fail
  go_loopw [15] (fun u V => ∃ i : Nat, i ≤ n ∧ u = .int .i64 (i : Int) ∧ Hid (Below W.heap.size W V ∧ ckGo l (repF l) (l.drop i) i = ckF l)) (fun u _ => n - (intOf u).toNat)
  case atStart => exact ⟨0, Nat.zero_le _, rfl, Below.refl _ _, by rw [List.drop_zero]; rfl⟩
  case round =>
    obtain ⟨i, hi, rfl, HR⟩ := hrel
    obtain ⟨V, hV⟩ : ∃ z, z = wr := ⟨_, rfl⟩
    subst hV
    by_cases hlt : i < n
    · have di : (i : Int) < (n : Int) := by omega
      obtain ⟨x, hx⟩ : ∃ z, l[i]? = some z := ⟨l[i]'(by rw [HL.out.len]; exact hlt), List.getElem?_eq_getElem _⟩
      obtain ⟨g1, o1, rfl, K1, c1, a1, a2, a3, a4, a5⟩ := (HL.out.below HR.out.1).at_ i x hx
      have x0 := a5 0 _ rfl
      have x1 := a5 1 _ rfl
      have x2 := a5 2 _ rfl
      have x3 := a5 3 _ rfl
      have x4 := a5 4 _ rfl
      have x5 := a5 5 _ rfl
      have x6 := a5 6 _ rfl
      have x7 := a5 7 _ rfl
      have x8 := a5 8 _ rfl
      have x9 := a5 9 _ rfl
      rw [Nat.add_zero] at x0
      have hstep := ckGo_step (R := repF l) hx
      rw [HR.out.2] at hstep
      obtain ⟨kd, hkd⟩ : ∃ z, x.kind = z := ⟨_, rfl⟩
      obtain ⟨tg, htg⟩ : ∃ z, x.tag = z := ⟨_, rfl⟩
      obtain ⟨an, han⟩ : ∃ z, x.anchor = z := ⟨_, rfl⟩
      obtain ⟨vl, hvl⟩ : ∃ z, x.value = z := ⟨_, rfl⟩
      obtain ⟨st, hst⟩ : ∃ z, x.st = z := ⟨_, rfl⟩
      obtain ⟨kl, hkl⟩ : ∃ z, x.kids.length = z := ⟨_, rfl⟩
      rw [hkd] at x0
      rw [htg] at x2
      rw [han] at x3
      rw [hvl] at x4
      rw [hst] at x5 hstep
      rw [hkl] at x9
      obtain ⟨V1, hV1⟩ : ∃ z, V.alloc (.cells #[.int .i64 kd, .int .i64 x.style, .string tg, .string an, .string vl, .int .i64 st, .int .i64 x.en, .int .i64 x.hd, .int .i64 x.mr, .slice K1 kl c1] 41) = z := ⟨_, rfl⟩
      have hb1 : Below V.heap.size V V1 := by rw [← hV1]; exact (Below.refl _ _).alloc (Nat.le_refl _) _
      obtain ⟨gx, hgx⟩ : ∃ z, V.heap.size = z := ⟨_, rfl⟩
      have bx : Box V1 gx [.int .i64 kd, .int .i64 x.style, .string tg, .string an, .string vl, .int .i64 st, .int .i64 x.en, .int .i64 x.hd, .int .i64 x.mr, .slice K1 kl c1] := by rw [← hV1, ← hgx]; exact Box.new V _
      have y0 := bx.cell 0 _ rfl
      have HBX := Lib.hid bx
      have HB1 := Lib.hid (below_step HR.out.1 hb1)
      have HX := Lib.hid (And.intro hx (And.intro hkd (And.intro htg (And.intro han (And.intro hvl hstep)))))
      clear a1 a2 a3 a4 a5 hx hkd htg han hvl hst hkl hstep bx hb1
      go_upto_region 5 with fail
      clear hV1 hgx x0 x1 x2 x3 x4 x5 x6 x7 x8 x9
      have HK0 : Hid (((kd != 4) = true) ↔ kd ≠ 4) := bne_iff_ne
      have HI := Lib.hid (And.intro (HT.out x (List.mem_of_getElem? HX.out.1)) trivial)
      have hvs : vl.size ≤ 1000000 := by have := HI.out.1.2.2; rw [HX.out.2.2.2.2.1] at this; exact this
      have has : an.size ≤ 1000000 := by have := HI.out.1.2.1; rw [HX.out.2.2.2.1] at this; exact this
      go_wp2_with fail
      go_loopw [6, 7] (fun u v V' => ∃ (k : Nat) (b : Bool), k ≤ i ∧ u = .bool b ∧ v = .int .i64 (k : Int) ∧ Hid (Below V1.heap.size V1 V' ∧ (b = true ↔ kd ≠ 4 ∨ (vl.size ≠ 0 ∧ ∃ z ∈ l.take k, z.anchor = vl)))) (fun _ v _ => i - (intOf v).toNat)
      case atStart => exact ⟨0, kd != 4, Nat.zero_le _, rfl, rfl, Below.refl _ _, by rw [HK0.out, List.take_zero]; simp⟩
      case round =>
        obtain ⟨k, b, hk, rfl, rfl, HK⟩ := hrel
        obtain ⟨U, hU⟩ : ∃ z, z = wr := ⟨_, rfl⟩
        subst hU
        by_cases hlk : k < i
        · have dk : (k : Int) < (i : Int) := by omega
          obtain ⟨y, hy⟩ : ∃ z, l[k]? = some z := ⟨l[k]'(by rw [HL.out.len]; omega), List.getElem?_eq_getElem _⟩
          obtain ⟨gA, oA, eA, K2, c2, a1, a2, a3, a4, a5⟩ := (HL.out.below (below_step HB1.out HK.out.1)).at_ k y hy
          injection eA with eA
          injection eA with e1 e2
          subst e1 e2
          have z3 := a5 3 _ rfl
          have y4 := (HBX.out.below HK.out.1).cell 4 _ rfl
          have hnx := mem_take_next (P := fun z => z.anchor = vl) hy
          have hys := (HT.out y (List.mem_of_getElem? hy)).2.1
          obtain ⟨ak, hak⟩ : ∃ z, y.anchor = z := ⟨_, rfl⟩
          rw [hak] at z3 hnx hys
          have HN := Lib.hid hnx
          have dkn : (k : Int) < (n : Int) := by omega
          clear a1 a2 a3 a4 a5 hy hak hnx
          cases b with
          | true =>
            go_wp2_with fail
            go_quiet (fail)
            go_wp2_with fail
            go_roundw
            case rel => exact ⟨k + 1, true, by omega, by trivial, by go_num, below_drewN HK.out.1 _, by rw [HN.out]; exact ⟨fun _ => (HK.out.2.1 (by trivial)).imp id (fun h => ⟨h.1, .inl h.2⟩), fun _ => by trivial⟩⟩
            case measure => simp [intOf]; omega
          | false =>
            have hno : ¬ (kd ≠ 4 ∨ (vl.size ≠ 0 ∧ ∃ z ∈ l.take k, z.anchor = vl)) := fun h => by cases HK.out.2.2 h
            have HNO := Lib.hid hno
            clear hno
            by_cases h0 : ak = ⟨#[]⟩
            · subst h0
              go_wp2_with fail
              go_quiet (fail)
              go_wp2_with fail
              go_roundw
              case rel => exact ⟨k + 1, false, by omega, by trivial, by go_num, below_drewN HK.out.1 _, ⟨fun h => (by cases h), fun h => absurd (h.imp id (fun h => ⟨h.1, (HN.out.1 h.2).elim id (fun e => absurd (by rw [← e]; rfl) h.1)⟩)) HNO.out⟩⟩
              case measure => simp [intOf]; omega
            · have e0 := gne_isEmpty h0
              by_cases hs2 : ak = vl
              · subst hs2
                go_wp2_with fail
                go_quiet (fail)
                go_wp2_with fail
                go_roundw
                case rel => exact ⟨k + 1, true, by omega, by trivial, by go_num, below_drewN HK.out.1 _, ⟨fun _ => .inr ⟨gne_size h0, HN.out.2 (.inr (by trivial))⟩, fun _ => by trivial⟩⟩
                case measure => simp [intOf]; omega
              · have e1 := gstr_ne hs2
                go_wp2_with fail
                go_quiet (fail)
                go_wp2_with fail
                go_roundw
                case rel => exact ⟨k + 1, false, by omega, by trivial, by go_num, below_drewN HK.out.1 _, ⟨fun h => (by cases h), fun h => absurd (h.imp id (fun h => ⟨h.1, (HN.out.1 h.2).elim id (fun e => absurd e hs2)⟩)) HNO.out⟩⟩
                case measure => simp [intOf]; omega
        · obtain rfl : k = i := by omega
          have HU : Hid (Below W.heap.size W U) := below_step HB1.out HK.out.1
          have HF1 : Hid (b = true ↔ ¬ (kd = 4 ∧ ahdF (ancF l) vl (k : Int) = false)) := by
            show _ ↔ _
            rw [HK.out.2, ← ahd_take]
            cases ahdF (ancF l) vl (k : Int) <;> simp
          have HBU := Lib.hid (HBX.out.below HK.out.1)
          clear HBX HK HK0 y0
          have y5 := HBU.out.cell 5 _ rfl
          cases b with
          | false =>
            go_wp2_with fail
            go_quiet (fail)
            go_wp2_with fail
            go_ret2
            refine ⟨?_, below_drewN HU.out _⟩
            have hb : badF l (repF l) k x = 4 := by
              unfold badF
              rw [HX.out.2.1, HX.out.2.2.2.2.1]
              refine if_pos (Classical.byContradiction fun h => ?_)
              cases HF1.out.2 h
            rw [HX.out.2.2.2.2.2, hb]
            rfl
          | true =>
            clear y5
            go_wp2_with fail
            have hb1' : ¬ (kd = 4 ∧ ahdF (ancF l) vl (k : Int) = false) := HF1.out.1 (by trivial)
            have HF2 := Lib.hid hb1'
            clear hb1' HF1
            go_loopw [8] (fun u V' => ∃ j : Nat, j ≤ k ∧ u = .int .i64 (j : Int) ∧ Hid (Below U.heap.size U V' ∧ ¬ (an.size ≠ 0 ∧ ∃ z ∈ l.take j, z.anchor = an))) (fun u _ => k - (intOf u).toNat)
            case atStart => exact ⟨0, Nat.zero_le _, rfl, Below.refl _ _, fun h => by rw [List.take_zero] at h; obtain ⟨_, z, hz, _⟩ := h; cases hz⟩
            case round =>
              obtain ⟨j, hj, rfl, HJ⟩ := hrel
              obtain ⟨T, hTT⟩ : ∃ z, z = wr := ⟨_, rfl⟩
              subst hTT
              by_cases hlj : j < k
              · have dj : (j : Int) < (k : Int) := by omega
                obtain ⟨y, hy⟩ : ∃ z, l[j]? = some z := ⟨l[j]'(by rw [HL.out.len]; omega), List.getElem?_eq_getElem _⟩
                obtain ⟨gA, oA, eA, K2, c2, a1, a2, a3, a4, a5⟩ := (HL.out.below (below_step HU.out HJ.out.1)).at_ j y hy
                injection eA with eA
                injection eA with e1 e2
                subst e1 e2
                have z3 := a5 3 _ rfl
                have y3 := (HBU.out.below HJ.out.1).cell 3 _ rfl
                have hnx := mem_take_next (P := fun z => z.anchor = an) hy
                have hys := (HT.out y (List.mem_of_getElem? hy)).2.1
                obtain ⟨ak, hak⟩ : ∃ z, y.anchor = z := ⟨_, rfl⟩
                rw [hak] at z3 hnx hys
                have HN := Lib.hid hnx
                have djn : (j : Int) < (n : Int) := by omega
                clear a1 a2 a3 a4 a5 hy hak hnx
                by_cases h0 : an = ⟨#[]⟩
                · subst h0
                  go_wp2_with fail
                  go_quiet (fail)
                  go_wp2_with fail
                  go_roundw
                  case rel => exact ⟨j + 1, by omega, by go_num, below_drewN HJ.out.1 _, fun h => h.1 rfl⟩
                  case measure => simp [intOf]; omega
                · have e0 := gne_isEmpty h0
                  by_cases hs2 : ak = an
                  · subst hs2
                    have y5 := (HBU.out.below HJ.out.1).cell 5 _ rfl
                    have HUJ := Lib.hid (below_step HU.out HJ.out.1)
                    have hah : ahdF (ancF l) ak (k : Int) = true := by
                      obtain ⟨z, hz, e⟩ := HN.out.2 (.inr (by trivial))
                      exact ahd_take.2 ⟨gne_size h0, z, mem_take_le (by omega) hz, e⟩
                    have HAH := Lib.hid hah
                    clear hah
                    go_wp2_with fail
                    go_quiet (fail)
                    go_wp2_with fail
                    go_quiet (fail)
                    go_wp2_with fail
                    go_ret2
                    refine ⟨?_, below_drewN (below_drewN HUJ.out _) _⟩
                    have hb : badF l (repF l) k x = 5 := by
                      unfold badF
                      rw [HX.out.2.1, HX.out.2.2.2.2.1, HX.out.2.2.2.1, if_neg HF2.out]
                      exact if_pos (.inl HAH.out)
                    rw [HX.out.2.2.2.2.2, hb]
                    rfl
                  · have e1 := gstr_ne hs2
                    go_wp2_with fail
                    go_quiet (fail)
                    go_wp2_with fail
                    go_roundw
                    case rel => exact ⟨j + 1, by omega, by go_num, below_drewN HJ.out.1 _, fun h => (HN.out.1 h.2).elim (fun h2 => HJ.out.2 ⟨h.1, h2⟩) (fun e => hs2 e)⟩
                    case measure => simp [intOf]; omega
              · obtain rfl : j = k := by omega
                have HUT : Hid (Below W.heap.size W T) := below_step HU.out HJ.out.1
                have hah : ¬ ahdF (ancF l) an (j : Int) = true := fun h => HJ.out.2 (ahd_take.1 h)
                have HAH := Lib.hid hah
                have HBT := Lib.hid (HBU.out.below HJ.out.1)
                clear hah HJ HBU
                have hbad : ∀ b : Bool, (repF l).getD j false = b → badF l (repF l) j x = if b then 5 else 0 := by
                  intro b hb
                  unfold badF
                  rw [HX.out.2.1, HX.out.2.2.2.2.1, HX.out.2.2.2.1, if_neg HF2.out, hb]
                  cases b
                  · exact if_neg (fun h => h.elim HAH.out (fun h => by cases h))
                  · exact if_pos (.inr rfl)
                have HBAD := Lib.hid hbad
                clear hbad HF2 HAH
                have HGT := Lib.hid (HL.out.below HUT.out)
                have HPA := Lib.hid (rparent_at HGT.out HS.out hn (j : Int))
                go_wp2_with fail
                refine HPA.out.mono ?_
                clear HPA
                rintro e T' ⟨p, q, rfl, hP, rfl⟩
                rcases hP.out with ⟨rfl, rfl, hno⟩ | ⟨p, q, y, rfl, rfl, hy, hky⟩
                · have HZ : Hid (ckGo l (repF l) (l.drop (j + 1)) (j + 1) = ckF l) := by
                    show _ = _
                    have h1 := HX.out.2.2.2.2.2
                    rw [HBAD.out false (rep_none HE.out (by rw [HL.out.len]; exact hlt) hno), if_pos (by rfl)] at h1
                    exact h1.symm
                  clear hno hP
                  go_wp2_with fail
                  go_roundw
                  case rel => exact ⟨j + 1, by omega, by go_num, HUT.out, HZ.out⟩
                  case measure => simp [intOf]; omega
                · have hpl := (List.getElem?_eq_some_iff.1 hy).1
                  rw [HL.out.len] at hpl
                  obtain ⟨gA, oA, eA, K2, c2, a1, a2, a3, a4, a5⟩ := HGT.out.at_ p y hy
                  injection eA with eA
                  injection eA with e1 e2
                  subst e1 e2
                  have w0 := a5 0 _ rfl
                  have w9 := a5 9 _ rfl
                  rw [Nat.add_zero] at w0
                  have hrp := rep_parent HE.out HX.out.1 hy hky
                  have hql := (List.getElem?_eq_some_iff.1 hky).1
                  have hkl3 := (HS.out y (List.mem_of_getElem? hy)).1
                  obtain ⟨yk, hyk⟩ : ∃ z, y.kind = z := ⟨_, rfl⟩
                  obtain ⟨ykl, hykl⟩ : ∃ z, y.kids.length = z := ⟨_, rfl⟩
                  rw [hyk] at w0 hrp
                  rw [hykl] at w9 a1 hql hkl3
                  have HY := Lib.hid (And.intro hy (And.intro hky (And.intro hrp (And.intro a4 hykl))))
                  have dp0 : decide ((p : Int) < 0) = false := decide_eq_false (by omega)
                  have dp1 : ¬ (p : Int) < 0 := by omega
                  have dpn : (p : Int) < (n : Int) := by omega
                  have go_on : (repF l).getD j false = false → ckGo l (repF l) (l.drop (j + 1)) (j + 1) = ckF l := fun h => by
                    have h1 := HX.out.2.2.2.2.2
                    rw [HBAD.out false h, if_pos (by rfl)] at h1
                    exact h1.symm
                  have HGO := Lib.hid go_on
                  clear hy hky hrp a4 a5 hyk hykl hP go_on a1 a2 a3
                  by_cases h3 : yk = 3
                  · subst h3
                    rcases Nat.mod_two_eq_zero_or_one q with hq | hq
                    · obtain ⟨a, rfl⟩ : ∃ a, q = 2 * a := ⟨q / 2, by omega⟩
                      have hm2 : ((2 * a : Nat) : Int).tmod 2 = 0 := by rw [Int.tmod_eq_emod_of_nonneg (by omega)]; omega
                      go_wp2_with fail
                      clear hm2
                      go_loopw [11] (fun u V' => ∃ b : Nat, b ≤ a ∧ u = .int .i64 ((2 * b : Nat) : Int) ∧ Hid (Below T.heap.size T V' ∧ ¬ ErK l y.kids b x)) (fun u _ => 2 * a - (intOf u).toNat)
                      case atStart => exact ⟨0, Nat.zero_le _, rfl, Below.refl _ _, erK_zero⟩
                      case round =>
                        obtain ⟨b, hb, rfl, HM⟩ := hrel
                        obtain ⟨M, hM⟩ : ∃ z, z = wr := ⟨_, rfl⟩
                        subst hM
                        by_cases hlb : b < a
                        · have db : ((2 * b : Nat) : Int) < ((2 * a : Nat) : Int) := by omega
                          have dbk : ((2 * b : Nat) : Int) < (ykl : Int) := by omega
                          obtain ⟨kq, hkq⟩ : ∃ z, y.kids[2 * b]? = some z := ⟨y.kids[2 * b]'(by rw [HY.out.2.2.2.2]; omega), List.getElem?_eq_getElem _⟩
                          obtain ⟨c0, _, cl, _⟩ := HE.out.kid HY.out.1 hkq
                          rw [HL.out.len] at cl
                          obtain ⟨m, rfl⟩ := Int.eq_ofNat_of_zero_le c0
                          rw [Int.toNat_natCast] at cl
                          obtain ⟨kg, ko, rfl, hkc⟩ := (HY.out.2.2.2.1.below HM.out.1).addr (by rw [ki_len, HY.out.2.2.2.2]; omega)
                          have yq := hkc (2 * b) _ (ki_at hkq)
                          have w9' := cell_keep HM.out.1 w9
                          have dm : (m : Int) < (n : Int) := by omega
                          obtain ⟨v, hv⟩ : ∃ z, l[m]? = some z := ⟨l[m]'(by rw [HL.out.len]; omega), List.getElem?_eq_getElem _⟩
                          obtain ⟨gA, oA, eA, K3, c3, a1, a2, a3, a4, a5⟩ := (HGT.out.below HM.out.1).at_ m v hv
                          injection eA with eA
                          injection eA with e1 e2
                          subst e1 e2
                          have v0 := a5 0 _ rfl
                          have v1 := a5 1 _ rfl
                          have v2 := a5 2 _ rfl
                          have v3 := a5 3 _ rfl
                          have v4 := a5 4 _ rfl
                          have v5 := a5 5 _ rfl
                          have v6 := a5 6 _ rfl
                          have v7 := a5 7 _ rfl
                          have v8 := a5 8 _ rfl
                          have v9 := a5 9 _ rfl
                          rw [Nat.add_zero] at v0
                          have HV := Lib.hid (And.intro hkq hv)
                          obtain ⟨vt, hvt⟩ : ∃ z, v.tag = z := ⟨_, rfl⟩
                          obtain ⟨vv, hvv⟩ : ∃ z, v.value = z := ⟨_, rfl⟩
                          rw [hvt] at v2
                          rw [hvv] at v4
                          have HVT := Lib.hid (And.intro hvt hvv)
                          obtain ⟨M1, hM1⟩ : ∃ z, M.alloc (.cells #[.int .i64 v.kind, .int .i64 v.style, .string vt, .string v.anchor, .string vv, .int .i64 v.st, .int .i64 v.en, .int .i64 v.hd, .int .i64 v.mr, .slice K3 v.kids.length c3] 41) = z := ⟨_, rfl⟩
                          have hbm : Below M.heap.size M M1 := by rw [← hM1]; exact (Below.refl _ _).alloc (Nat.le_refl _) _
                          have bm : Box M1 M.heap.size [.int .i64 v.kind, .int .i64 v.style, .string vt, .string v.anchor, .string vv, .int .i64 v.st, .int .i64 v.en, .int .i64 v.hd, .int .i64 v.mr, .slice K3 v.kids.length c3] := by rw [← hM1]; exact Box.new M _
                          have m2 := bm.cell 2 _ rfl
                          have m4 := bm.cell 4 _ rfl
                          have HTM := Lib.hid (below_step HM.out.1 hbm)
                          have bt := HBT.out.below HTM.out
                          have t2 := bt.cell 2 _ rfl
                          have t4 := bt.cell 4 _ rfl
                          have t5 := bt.cell 5 _ rfl
                          have w9'' := cell_keep hbm w9'
                          have HUM : Hid (Below W.heap.size W M1) := below_step HUT.out HTM.out
                          clear hkc hkq hv a1 a2 a3 a4 a5 hvt hvv c0 w9 bm bt hbm
                          go_upto_region 23 with fail
                          clear hM1 v0 v1 v2 v3 v4 v5 v6 v7 v8 v9 yq w9'
                          have erk : ErK l y.kids (b + 1) x ↔ ErK l y.kids b x ∨ (vt = tg ∧ vv = vl) := by
                            constructor
                            · rintro ⟨b', k', z, h1, h2, h3, h4, h5⟩
                              by_cases e : b' < b
                              · exact .inl ⟨b', k', z, e, h2, h3, h4, h5⟩
                              · obtain rfl : b' = b := by omega
                                rw [HV.out.1] at h2; injection h2 with h2; subst h2
                                unfold kyN at h3
                                rw [if_pos (by omega), Int.toNat_natCast, HV.out.2] at h3
                                injection h3 with h3; subst h3
                                exact .inr ⟨by rw [← HVT.out.1, h4, HX.out.2.2.1], by rw [← HVT.out.2, h5, HX.out.2.2.2.2.1]⟩
                            · rintro (⟨b', k', z, h1, h2⟩ | ⟨h1, h2⟩)
                              · exact ⟨b', k', z, by omega, h2⟩
                              · exact ⟨b, (m : Int), v, by omega, HV.out.1, by unfold kyN; rw [if_pos (by omega), Int.toNat_natCast]; exact HV.out.2, by rw [HVT.out.1, HX.out.2.2.1]; exact h1, by rw [HVT.out.2, HX.out.2.2.2.2.1]; exact h2⟩
                          have HERK := Lib.hid erk
                          clear erk
                          by_cases ht : vt = tg
                          · by_cases hv : vv = vl
                            · subst ht hv
                              have hrep : (repF l).getD j false = true := HY.out.2.2.1.2 ⟨by trivial, a, by trivial, by obtain ⟨b', k', z, h1, h2⟩ := HERK.out.2 (.inr ⟨by trivial, by trivial⟩); exact ⟨b', k', z, by omega, h2⟩⟩
                              have HBB := Lib.hid (HBAD.out true hrep)
                              clear hrep
                              go_wp2_with fail
                              go_quiet (fail)
                              go_wp2_with fail
                              go_ret2
                              refine ⟨?_, below_drewN HUM.out _⟩
                              rw [HX.out.2.2.2.2.2, HBB.out]
                              rfl
                            · have e1 := gstr_ne hv
                              subst ht
                              go_wp2_with fail
                              go_roundw
                              case rel => exact ⟨b + 1, by omega, by go_num, HTM.out, fun h => (HERK.out.1 h).elim HM.out.2 (fun h => hv h.2)⟩
                              case measure => simp [intOf]; omega
                          · have e1 := gstr_ne ht
                            go_wp2_with fail
                            go_roundw
                            case rel => exact ⟨b + 1, by omega, by go_num, HTM.out, fun h => (HERK.out.1 h).elim HM.out.2 (fun h => ht h.1)⟩
                            case measure => simp [intOf]; omega
                        · obtain rfl : b = a := by omega
                          have HUM : Hid (Below W.heap.size W M) := below_step HUT.out HM.out.1
                          have HZ : Hid (ckGo l (repF l) (l.drop (j + 1)) (j + 1) = ckF l) := HGO.out (by
                            cases hb : (repF l).getD j false with
                            | false => rfl
                            | true =>
                              obtain ⟨_, a', ha, he⟩ := HY.out.2.2.1.1 hb
                              obtain rfl : b = a' := by omega
                              exact absurd he HM.out.2)
                          clear w9 w0
                          go_wp2_with fail
                          go_roundw
                          case rel => exact ⟨j + 1, by omega, by go_num, HUM.out, HZ.out⟩
                          case measure => simp [intOf]; omega
                    · have hm2 : (q : Int).tmod 2 = 1 := by rw [Int.tmod_eq_emod_of_nonneg (by omega)]; omega
                      have HZ : Hid (ckGo l (repF l) (l.drop (j + 1)) (j + 1) = ckF l) := HGO.out (by
                        cases hb : (repF l).getD j false with
                        | false => rfl
                        | true => obtain ⟨_, a, ha, _⟩ := HY.out.2.2.1.1 hb; omega)
                      go_wp2_with fail
                      go_roundw
                      case rel => exact ⟨j + 1, by omega, by go_num, HUT.out, HZ.out⟩
                      case measure => simp [intOf]; omega
                  · have h3' : (yk != 3) = true := bne_iff_ne.2 h3
                    have HZ : Hid (ckGo l (repF l) (l.drop (j + 1)) (j + 1) = ckF l) := HGO.out (by
                      cases hb : (repF l).getD j false with
                      | false => rfl
                      | true => exact absurd (HY.out.2.2.1.1 hb).1 h3)
                    go_wp2_with fail
                    go_roundw
                    case rel => exact ⟨j + 1, by omega, by go_num, HUT.out, HZ.out⟩
                    case measure => simp [intOf]; omega
    · obtain rfl : i = n := by omega
      have hfin := HR.out.2
      rw [List.drop_eq_nil_of_le (by rw [HL.out.len]; exact Nat.le_refl _)] at hfin
      go_wp2_with fail
      go_ret2
      refine ⟨?_, HR.out.1⟩
      rw [← hfin]
      rfl
theorem rep_snoc (t : Nat) : List.replicate (t + 1) (-1 : Int) = List.replicate t (-1) ++ [-1] := by rw [List.replicate_succ']
set_option maxHeartbeats 16000000 in
theorem rcompose_at {W : World} {g n cap : Nat} {l : List Gn} {E : Nat → Nat} (hL : GL W (some ⟨g, 0, none⟩) n cap l) (hE : GE l E) (hT : TxG l) (hK : KdG l) (hS : Small l) (hn : n ≤ 1000000) (hn0 : 0 < n) :
    Calls Try.prog 35 #[.slice (some ⟨g, 0, none⟩) n cap] W (CmpP W l) := by
  have hle := hL.le
  have hmx := hL.max
  have CC := Lib.hid (rcheck_at hL hE hT hS hn)
  obtain ⟨Q, hQ⟩ : ∃ z, ckF l = z := ⟨_, rfl⟩
  rw [hQ] at CC
  obtain ⟨q1, q2⟩ := Q
  simp only at CC
  have HQ0 := Lib.hid hQ
  have HL := Lib.hid hL
  have HE := Lib.hid hE
  have HT := Lib.hid hT
  have HS := Lib.hid hS
  have HK := Lib.hid hK
  clear hL hE hT hS hK hQ
  go_enter Try.func35, Try.ntmps35
  go_wp2_with fail
  refine CC.out.mono ?_
  clear CC
  rintro e W1 ⟨rfl, hb1⟩
  have H1 := Lib.hid hb1
  clear hb1
  by_cases hq : q1 = 0
  · subst hq
    go_upto_region 5 with fail
    obtain ⟨bc, hbc⟩ : ∃ z, W1.heap.size = z := ⟨_, rfl⟩
    obtain ⟨V1, hV1⟩ : ∃ z, W1.alloc (.cells #[.slice (some ⟨g, 0, none⟩) n cap, .slice none 0 0, .slice none 0 0] 83) = z := ⟨_, rfl⟩
    rw [hbc, hV1]
    have H2 : Hid (CmB V1 bc [.slice (some ⟨g, 0, none⟩) n cap, .slice none 0 0, .slice none 0 0] ∧ Below W.heap.size W V1 ∧ W.heap.size ≤ bc ∧ bc < V1.heap.size) := by
      refine ⟨by rw [← hV1, ← hbc]; exact CmB.new W1 _, below_step H1.out (by rw [← hV1]; exact (Below.refl _ _).alloc (Nat.le_refl _) _), by rw [← hbc]; exact H1.out.size, by rw [← hV1, ← hbc]; simp⟩
    clear hV1 hbc
    go_wp2_with fail
    go_loopw [20] (fun u V => ∃ (t : Nat) (AN : Option Addr) (nc : Nat), t ≤ n ∧ u = .int .i64 (t : Int) ∧ Hid (CmB V bc [.slice (some ⟨g, 0, none⟩) n cap, .slice AN t nc, .slice none 0 0] ∧ V.ownsRow (bc + 1) 3 1 (.slice AN t nc) t (ki (List.replicate t (-1))) ∧ Below W.heap.size W V)) (fun u _ => n - (intOf u).toNat)
    case atStart => exact ⟨0, none, 0, Nat.zero_le _, rfl, H2.out.1, own_nil _ _ _ _, H2.out.2.1⟩
    case round =>
      obtain ⟨t, AN, nc, ht, rfl, HR⟩ := hrel
      obtain ⟨V, hV⟩ : ∃ z, z = wr := ⟨_, rfl⟩
      subst hV
      by_cases hlt : t < n
      · have dt : (t : Int) < (n : Int) := by omega
        have c1 := HR.out.1.cell 1 _ rfl
        obtain ⟨VB, hVB⟩ : ∃ z, V.alloc (.cells #[.int .i64 (-1)] 3) = z := ⟨_, rfl⟩
        have hbB : Below V.heap.size V VB := by rw [← hVB]; exact (Below.refl _ _).alloc (Nat.le_refl _) _
        have hnew : RdC VB (some ⟨V.heap.size, 0, none⟩) [.int .i64 (-1)] := by rw [← hVB]; exact RdC.new rfl (fun j v hv => by simpa using hv)
        have hown := own_below HR.out.2.1 hbB
        have hcmB := HR.out.1.below hbB
        obtain ⟨v', VC, hrun, ho, hg, hv⟩ := run_append_rows Try.underlying22 int_info rfl (by omega) (by omega) VB (bc + 1) _ t _ hown (by have := hcmB.lt; omega) (some ⟨V.heap.size, 0, none⟩) 1 1 [.int .i64 (-1)] rfl hnew (by intro u hu; simp at hu; subst hu; rfl) (by omega)
        obtain ⟨A2, c2, rfl, _⟩ := own_form ho
        have hcmC := hcmB.grown hg (fun e => by have := own_base hown bc e; omega)
        have hbelB := below_step HR.out.2.2 hbB
        have hbelC := hbelB.grown hg hbelB.size (fun k hk => by have := own_base hown k hk; have := H2.out.2.2.1; omega)
        have HN : Hid (CmB (VC.setCell ⟨bc, 1, none⟩ (.slice A2 (t + 1) c2)) bc [.slice (some ⟨g, 0, none⟩) n cap, .slice A2 (t + 1) c2, .slice none 0 0] ∧ (VC.setCell ⟨bc, 1, none⟩ (.slice A2 (t + 1) c2)).ownsRow (bc + 1) 3 1 (.slice A2 (t + 1) c2) (t + 1) (ki (List.replicate (t + 1) (-1))) ∧ Below W.heap.size W (VC.setCell ⟨bc, 1, none⟩ (.slice A2 (t + 1) c2))) := by
          refine ⟨hcmC.set 1 _, ?_, hbelC.setCell (p := ⟨bc, 1, none⟩) H2.out.2.2.1 _⟩
          rw [rep_snoc, show ki (List.replicate t (-1) ++ [-1]) = ki (List.replicate t (-1)) ++ [.int .i64 (-1)] by simp [ki]]
          exact own_setCell ho _ _ (fun y hy => by have := own_base ho y hy; show y ≠ bc; omega)
        have d1 := hcmC.cell 1 _ rfl
        have f1 := hcmC.frozen 1
        have HRUN := Lib.hid hrun
        clear hbB hnew hown hcmB hrun ho hg hv hcmC hbelB hbelC
        go_wp2_with (at_builtin; refine wpList_append_known rfl _ (.tmp 27) 22 rfl _ (.slice (some ⟨V.heap.size, 0, none⟩) 1 1) _ _ rfl rfl HRUN.out ?_)
        go_roundw
        case rel => exact ⟨t + 1, A2, c2, by omega, by go_num, HN.out⟩
        case measure => simp [intOf]; omega
      · obtain rfl : t = n := by omega
        obtain ⟨bn, rfl, hbnB, hbnV⟩ := row_addr HR.out.2.1 hn0
        obtain ⟨x, hx⟩ : ∃ z, l[0]? = some z := ⟨l[0]'(by rw [HL.out.len]; omega), List.getElem?_eq_getElem _⟩
        have hC : Cst W (bc + 1) V.heap.size bc (.slice (some ⟨g, 0, none⟩) t cap) l 0 (.slice (some ⟨bn, 0, none⟩) t nc) (.slice none 0 0) [] V := by
          refine ⟨HR.out.1, ?_, fun k hk => ?_, HR.out.1.lt, Nat.le_refl _, ThA.nil _ _, by rw [List.take_zero]; rfl, HR.out.2.2⟩
          · rw [nM_zero, HL.out.len]
            exact HR.out.2.1
          · have hk2 : bn = k := by injection hk
            subst hk2
            exact ⟨by omega, hbnV⟩
        have CT := Lib.hid (cthing_rec (B := bc + 1) (S := V.heap.size) (bc := bc) (bn := bn) (nc := nc) HL.out HE.out HT.out HK.out HS.out (by rw [HQ0.out]) hn (by have := H2.out.2.2.1; omega) HR.out.1.lt H2.out.2.2.1 (E 0) 0 x (.slice none 0 0) [] V hx (by omega) hC)
        have hroot : E 0 = l.length := by have := HE.out.ends.root; rw [List.length_map] at this; exact this
        clear hC hx
        go_wp2_with fail
        refine CT.out.mono ?_
        clear CT
        rintro e U1 ⟨rfl, O2, P2, hC2, hP2⟩
        obtain ⟨A3, c3, rfl, _⟩ := own_form hC2.out.row
        have c2 := hC2.cm.cell 2 _ rfl
        have HF : Hid (TL U1 A3 P2.length c3 (cmpL (nbrF l) l) ∧ Below W.heap.size W U1) := by
          refine ⟨?_, hC2.bel⟩
          have := hC2.out.thn.tl rfl
          rw [hP2, hroot, seg_all] at this
          exact this
        clear hC2 hP2 hroot
        go_wp2_with fail
        go_ret2
        exact .inr ⟨by rw [HQ0.out], A3, P2.length, c3, rfl, HF.out⟩
  · have hq' : (q1 == 0) = false := beq_eq_false_iff_ne.2 hq
    have hq2 : (q1 != 0) = true := bne_iff_ne.2 hq
    have hq3 : decide (q1 = 0) = false := decide_eq_false hq
    go_wp2_with fail
    go_ret2
    exact .inl ⟨by rw [HQ0.out]; exact hq, by rw [HQ0.out]; rfl, H1.out⟩
set_option maxHeartbeats 16000000 in
theorem kthings_at {W : World} {A B : Option Addr} {n c d : Nat} {T : List Th} (h1 : TL W A n c T) (h2 : TL W B n d T) (hk : ∀ x ∈ T, x.kids.length ≤ 1000000) (hn : n ≤ 1000000) :
    Calls Try.prog 36 #[.slice A n c, .slice B n d] W fun e w' => e = .returned (.bool true) ∧ Below W.heap.size W w' := by
  have hl1 := h1.le
  have hl2 := h2.le
  have hm1 := h1.max
  have hm2 := h2.max
  have H1 := Lib.hid h1
  have H2 := Lib.hid h2
  have HK := Lib.hid hk
  clear h1 h2 hk
  go_enter Try.func36, Try.ntmps36
  go_wp2_with fail
  go_loopw [13] (fun u V => ∃ t : Nat, t ≤ n ∧ u = .int .i64 (t : Int) ∧ Hid (Below W.heap.size W V)) (fun u _ => n - (intOf u).toNat)
  case atStart => exact ⟨0, Nat.zero_le _, rfl, Below.refl _ _⟩
  case round =>
    obtain ⟨i, hi, rfl, HR⟩ := hrel
    obtain ⟨V, hV⟩ : ∃ z, z = wr := ⟨_, rfl⟩
    subst hV
    by_cases hlt : i < n
    · have di : (i : Int) < (n : Int) := by omega
      obtain ⟨x, hx⟩ : ∃ z, T[i]? = some z := ⟨T[i]'(by rw [H1.out.len]; exact hlt), List.getElem?_eq_getElem _⟩
      obtain ⟨g1, rfl, K1, c1, k1, k2, k3⟩ := (H1.out.below HR.out).at_ i x hx
      obtain ⟨g2, rfl, K2, c2, j1, j2, j3⟩ := (H2.out.below HR.out).at_ i x hx
      have x0 := k3 0 _ rfl
      have x1 := k3 1 _ rfl
      have x2 := k3 2 _ rfl
      have x3 := k3 3 _ rfl
      have y0 := j3 0 _ rfl
      have y1 := j3 1 _ rfl
      have y2 := j3 2 _ rfl
      have y3 := j3 3 _ rfl
      rw [Nat.add_zero] at x0 y0
      have hkl2 := HK.out x (List.mem_of_getElem? hx)
      have CS : Hid (∀ U, Below V.heap.size V U → Calls Try.prog 49 #[.slice K1 x.kids.length c1, .slice K2 x.kids.length c2] U (AnsB U (x.kids = x.kids))) := fun U hU => ksameI_at rfl rfl hkl2 hkl2 (k2.below hU) (j2.below hU)
      obtain ⟨kd, hkd⟩ : ∃ z, x.kind = z := ⟨_, rfl⟩
      obtain ⟨tg, htg⟩ : ∃ z, x.tag = z := ⟨_, rfl⟩
      obtain ⟨vl, hvl⟩ : ∃ z, x.value = z := ⟨_, rfl⟩
      obtain ⟨kl, hkl⟩ : ∃ z, x.kids.length = z := ⟨_, rfl⟩
      rw [hkd] at x0 y0
      rw [htg] at x1 y1
      rw [hvl] at x2 y2
      rw [hkl] at x3 y3 CS
      clear hx k1 k2 k3 j1 j2 j3 hkd htg hvl hkl hkl2
      go_wp2_with fail
      go_still_tail 48, (by kernel_rfl)
      change wpList _ _ _ _ _ V.drew
      have HD : Hid (Below W.heap.size W V.drew) := HR.out.drew
      have CS2 := Lib.hid (CS.out V.drew (Below.refl _ _).drew)
      clear x0 x1 x2 x3 y0 y1 y2 y3 CS
      generalize V.drew = V4 at HD CS2 ⊢
      go_wp2_with fail
      refine CS2.out.mono ?_
      clear CS2
      rintro e V5 ⟨b, rfl, hb, hb5⟩
      obtain rfl : b = true := hb.2 trivial
      have HV5 : Hid (Below W.heap.size W V5) := below_step HD.out hb5
      clear hb hb5 HD
      go_wp2_with fail
      refine And.intro ⟨i + 1, by omega, by go_num, HV5.out⟩ ?_
      simp [intOf]; omega
    · obtain rfl : i = n := by omega
      go_wp2_with fail
      go_ret
      exact ⟨rfl, HR.out⟩
theorem mvL_zero (L : List Nd) : mvL 0 L = L := by
  unfold mvL
  refine (List.map_congr_left fun x _ => ?_).trans (List.map_id _)
  cases x
  simp [mvN]
theorem txOk_gn {l : List Nd} (h : ∀ x ∈ l, TxOk 200000 x) : TxG (l.map gn) := by
  intro y hy
  obtain ⟨x, hx, rfl⟩ := List.mem_map.1 hy
  obtain ⟨h1, h2, h3⟩ := h x hx
  have hs : ∀ z : List Int, (strOfNums z).size = z.length := fun z => by simp [strOfNums, ByteArray.size]
  show (strOfNums x.tag).size ≤ _ ∧ (strOfNums x.anchor).size ≤ _ ∧ (strOfNums x.value).size ≤ _
  rw [hs, hs, hs]
  omega
theorem oneX_txt : ∀ x ∈ [oneX], TxOk 200000 x := fun x hx => by
  simp only [List.mem_singleton] at hx
  subst hx
  exact ⟨by simp [oneX], by simp [oneX], by simp [oneX]⟩
/-- Texts of a moderate size, kinds that there are, no alias with an anchor. -/
def TxK (l : List Gn) : Prop := TxG l ∧ KdG l
def TxA (x : Nd) : Prop := TxOk 200000 x ∧ KdOk x
theorem txA_gn {l : List Nd} (h : ∀ x ∈ l, TxA x) : TxK (l.map gn) := ⟨txOk_gn fun x hx => (h x hx).1, kdOk_gn fun x hx => (h x hx).2⟩
theorem oneX_A : ∀ x ∈ [oneX], TxA x := fun x hx => ⟨oneX_txt x hx, oneX_kd x hx⟩
theorem TxK.set {l : List Gn} (h : TxK l) {i : Nat} {y : Gn} (hk : KdI y.kind ∧ (y.kind = 4 → y.anchor = ⟨#[]⟩)) (hy : y.tag.size ≤ 1000000 ∧ y.anchor.size ≤ 1000000 ∧ y.value.size ≤ 1000000) : TxK (l.set i y) := ⟨h.1.set hy, h.2.set hk⟩
theorem parse_A {b : List Int} (hb : Byte b) (hM : 4 * b.length + 7 ≤ 200000) {fl : Bool} {l : List Nd} (h : inParse b fl = .ok l) : ∀ x ∈ l, TxA x := fun x hx => ⟨parse_txt hb hM h x hx, parse_kd h x hx⟩
/-- A tree of the law's. -/
def TreeAns2 (W : World) (e : Ending) (w' : World) : Prop := ∃ (g n cap : Nat) (l : List Gn) (E : Nat → Nat), e = .returned (.slice (some ⟨g, 0, none⟩) n cap) ∧ 1 ≤ n ∧ n ≤ 65537 ∧ n ≤ cap ∧ cap ≤ 9223372036854775807 ∧ GL w' (some ⟨g, 0, none⟩) n cap l ∧ GE l E ∧ TxK l ∧ Below W.heap.size W w'
set_option maxHeartbeats 16000000 in
theorem cktree2_at {w W : World} {A1 A2 A3 : Option Addr} {n1 c1 n2 c2 n3 c3 : Nat} (hp : PlanIn w A1 n1 c1 A2 n2 c2) (hm : NumIn w A3 n3) (h3 : n3 ≤ c3) (h3' : c3 ≤ 9223372036854775807) (hb : Below w.heap.size w W) :
    Calls Try.prog 27 #[.agg #[.slice A1 n1 c1, .slice A2 n2 c2], .slice A3 n3 c3] W (TreeAns2 W) := by
  obtain ⟨W0, hW0⟩ : ∃ W0, W.alloc (.cells #[.slice A1 n1 c1, .slice A2 n2 c2] 25) = W0 := ⟨_, rfl⟩
  have pq0 : W0.cell? ⟨W.heap.size, 0, none⟩ = some (.slice A1 n1 c1) := by rw [← hW0, World.cell?_alloc_mark]; rfl
  have pq1 : W0.cell? ⟨W.heap.size, 1, none⟩ = some (.slice A2 n2 c2) := by rw [← hW0, World.cell?_alloc_mark]; rfl
  have hb0 : Below W.heap.size W W0 := by rw [← hW0]; exact (Below.refl _ _).alloc (Nat.le_refl _) _
  have HB0 := Lib.hid hb0
  have HP := Lib.hid (planIn_in hp (below_step hb hb0))
  have HM := Lib.hid (hm.below (below_step hb hb0))
  have h48 : pySz 4 ≤ 30000 := by decide
  clear hp hb hb0 hm
  go_enter Try.func27, Try.ntmps27
  go_wp2_with fail
  clear hW0 pq0 pq1
  refine (play_at HP.out (Below.refl _ _)).mono ?_
  rintro e W1 ⟨s, hs, rfl, hbb⟩
  have hsz : s.size ≤ 30000 := by have := pyN_len 4 _ hs; rw [byt_len] at this; omega
  have HB1 := Lib.hid (And.intro (below_step HB0.out hbb) hbb)
  clear hs hbb h48
  obtain ⟨r, hr⟩ : ∃ r, inParse (byt s) true = r := ⟨_, rfl⟩
  have HR := Lib.hid hr
  clear hr
  go_wp2_with fail
  refine (tree_at W1 s (by omega) r HR.out).mono ?_
  intro e W2 h2
  have hfin : ∃ (v : Value) (z : Bool), e = .returned v ∧ Below W1.heap.size W1 W2 ∧ ((z = false ∧ v = .slice none 0 0) ∨ (z = true ∧ ∃ (g n cap : Nat) (P : List NK), v = .slice (some ⟨g, 0, none⟩) n cap ∧ Nds W.heap.size W2 v P ∧ P.length = n ∧ TreeOk (lst P) ∧ ∀ x ∈ lst P, TxA x)) := by
    cases r with
    | error q =>
      obtain ⟨rfl, hb2⟩ := h2
      exact ⟨_, false, rfl, hb2, .inl ⟨rfl, rfl⟩⟩
    | ok l =>
      obtain ⟨v, P, rfl, hN, hl, hb2⟩ := h2
      have hok := parse_tree HR.out
      have htx := parse_A (byt_byte s) (by rw [byt_len]; omega) HR.out
      rw [← hl] at hok htx
      have hpl : 0 < P.length := by have := hok.pos; rwa [lst_len] at this
      obtain ⟨g, cap, rfl, _⟩ := hN.form hpl
      exact ⟨_, true, rfl, hb2, .inr ⟨rfl, g, P.length, cap, P, rfl, hN.low HB1.out.1.size, rfl, hok, htx⟩⟩
  obtain ⟨v, z, rfl, hb2, hv⟩ := hfin
  have HB2 := Lib.hid (And.intro (below_step HB1.out.1 hb2) (below_step HB1.out.2 hb2))
  clear h2 hb2
  have HV := Lib.hid hv
  clear hv
  have hvs : ∃ A n cap, v = .slice A n cap ∧ (A = none ↔ z = false) := by
    rcases HV.out with ⟨h1, h2⟩ | ⟨h1, g, n, cap, P, h2, _⟩
    · exact ⟨none, 0, 0, h2, ⟨fun _ => h1, fun _ => rfl⟩⟩
    · exact ⟨some ⟨g, 0, none⟩, n, cap, h2, ⟨fun h => (by cases h), fun h => (by rw [h1] at h; cases h)⟩⟩
  obtain ⟨A, n, cap, rfl, hA⟩ := hvs
  have heq := fun V => Lib.run_eql_slice_nil (P := Try.prog) V 26 41 A n cap 0 0 Try.underlying26
  go_upto_if 13 with fail
  go_cut [5] (fun v V => ∃ (g n cap : Nat) (P : List NK), v = .slice (some ⟨g, 0, none⟩) n cap ∧ Hid (Nds W.heap.size V (.slice (some ⟨g, 0, none⟩) n cap) P ∧ P.length = n ∧ TreeOk (lst P) ∧ (∀ x ∈ lst P, TxA x) ∧ Below W.heap.size W V ∧ Below W0.heap.size W0 V))
  case first =>
    cases z with
    | false =>
      obtain rfl : A = none := hA.2 rfl
      have hone := Nds.one (B := W.heap.size) W2 HB2.out.1.size oneX rfl
      have hcc : (ndC (oneX, .slice none 0 0)).toArray = #[.int .i64 1, .int .i64 0, .string ⟨#[33, 33, 115, 116, 114]⟩, .string ⟨#[]⟩, .string ⟨#[120]⟩, .int .i64 0, .int .i64 1, .int .i64 0, .int .i64 0, .slice none 0 0] := rfl
      rw [hcc] at hone
      have HO := Lib.hid hone
      clear hone hcc hA
      go_wp2_with fail
      go_meet
      exact ⟨_, _, _, _, rfl, HO.out, rfl, oneX_tree, oneX_A, HB2.out.1.alloc HB2.out.1.size _, HB2.out.2.alloc HB2.out.2.size _⟩
    | true =>
      obtain ⟨g, n', cap', P, e1, q1, q2, q3, q4⟩ : ∃ (g n' cap' : Nat) (P : List NK), Value.slice A n cap = .slice (some ⟨g, 0, none⟩) n' cap' ∧ Nds W.heap.size W2 (.slice A n cap) P ∧ P.length = n' ∧ TreeOk (lst P) ∧ ∀ x ∈ lst P, TxA x := by
        rcases HV.out with ⟨h1, _⟩ | ⟨_, h⟩
        · cases h1
        · exact h
      simp only [Value.slice.injEq] at e1
      obtain ⟨rfl, rfl, rfl⟩ := e1
      have HO := Lib.hid (And.intro q1 (And.intro q2 (And.intro q3 q4)))
      clear q1 q2 q3 q4 hA
      go_wp2_with fail
      go_meet
      exact ⟨_, _, _, P, rfl, HO.out.1, HO.out.2.1, HO.out.2.2.1, HO.out.2.2.2, HB2.out⟩
  case rest =>
    obtain ⟨g, n', cap', P, rfl, HO⟩ := hcut
    obtain ⟨V, hV⟩ : ∃ z, z = wc := ⟨_, rfl⟩
    subst hV
    have hn1 : 1 ≤ n' := by have := HO.out.2.2.1.pos; rw [lst_len, HO.out.2.1] at this; exact this
    have hn2 : n' ≤ 65537 := by have := HO.out.2.2.1.len; rw [lst_len, HO.out.2.1] at this; exact this
    have hends := ends_of HO.out.2.2.1.tree
    have hge := hends.ge
    have hkz : ∀ p ∈ P, p.1.kids.length ≤ 100010 ∧ ∀ z ∈ p.1.kids, z ≤ 200000 := by
      intro p hp
      have hpl : p.1 ∈ lst P := List.mem_map.2 ⟨p, hp, rfl⟩
      refine ⟨by have := HO.out.2.2.1.kids p.1 hpl; omega, fun z hz => ?_⟩
      obtain ⟨i, hi⟩ := List.mem_iff_getElem?.1 hpl
      obtain ⟨e1, ⟨_, _, q, _⟩, _⟩ := (hends.rowT hi).mem (fun k e g => g.1) z hz
      rw [lst_len, HO.out.2.1] at q
      omega
    have CM := Lib.hid (move_at HO.out.1 HO.out.2.1 (by omega) (by omega) 0 (by omega) hkz)
    have HG := Lib.hid (And.intro hge (txA_gn HO.out.2.2.2.1))
    clear hends hge hkz HV heq hA
    go_wp2_with fail
    refine CM.out.mono ?_
    clear CM
    rintro e V1 ⟨v', Q, rfl, hQ, hQl, hbQ⟩
    rw [mvL_zero] at hQl
    have hQn : Q.length = n' := by rw [← HO.out.2.1, ← lst_len, ← lst_len, hQl]
    obtain ⟨g2, cap2, rfl, _⟩ := hQ.form (by omega)
    rw [hQn] at hQ ⊢
    obtain ⟨hgn, hgl⟩ := hQ.gnds
    obtain ⟨E, hE⟩ : ∃ z, tEnd (lst P) = z := ⟨_, rfl⟩
    obtain ⟨D, hD⟩ : ∃ z, (Q.map fun p => (gn p.1, p.2)) = z := ⟨_, rfl⟩
    rw [hD] at hgn hgl
    rw [hQl] at hgl
    have hDl : D.length = n' := by rw [← hD, List.length_map]; exact hQn
    have H0 : Hid (GNds V.heap.size V1 (.slice (some ⟨g2, 0, none⟩) n' cap2) D ∧ D.length = n' ∧ GE (glst D) E ∧ TxK (glst D) ∧ Below W.heap.size W V1 ∧ Below W0.heap.size W0 V1) := ⟨hgn, hDl, by rw [hgl, ← hE]; exact HG.out.1, by rw [hgl]; exact HG.out.2, below_step HO.out.2.2.2.2.1 hbQ, below_step HO.out.2.2.2.2.2 hbQ⟩
    have hb0 : V.heap.size ≥ W.heap.size := HO.out.2.2.2.2.1.size
    have hb00 : V.heap.size ≥ W0.heap.size := HO.out.2.2.2.2.2.size
    clear hQ hQl hbQ hQn hgn hgl hE hD hDl HG HO
    go_wp2_with fail
    go_loopw [6] (fun u U => ∃ (i : Nat) (D : List GK), i ≤ n3 ∧ i ≤ 8 ∧ u = .int .i64 (i : Int) ∧ D.length = n' ∧ Hid (GNds V.heap.size U (.slice (some ⟨g2, 0, none⟩) n' cap2) D ∧ GE (glst D) E ∧ TxK (glst D) ∧ Below W.heap.size W U ∧ Below W0.heap.size W0 U)) (fun u _ => 8 - (intOf u).toNat)
    case atStart => exact ⟨0, D, Nat.zero_le _, by omega, rfl, H0.out.2.1, H0.out.1, H0.out.2.2.1, H0.out.2.2.2.1, H0.out.2.2.2.2.1, H0.out.2.2.2.2.2⟩
    case round =>
      obtain ⟨i, D, hi, hi8, rfl, hDl, HQ⟩ := hrel
      obtain ⟨U, hU⟩ : ∃ z, z = wr := ⟨_, rfl⟩
      subst hU
      by_cases hlt : i < n3
      · have dt : (i : Int) < (n3 : Int) := by omega
        by_cases hl8 : i < 8
        · have d8 : (i : Int) < 8 := by omega
          obtain ⟨b, off, rfl, hc⟩ := (HM.out.below HQ.out.2.2.2.2) (by omega)
          obtain ⟨z, cz, z1, z2⟩ := hc i hlt
          have hz16 := tdiv_bd z 16 z1 z2 (by omega)
          have hz64 := tdiv_bd z 64 z1 z2 (by omega)
          clear hc
          go_wp2_with fail
          refine (within_nat z n' U hn1 (by omega) ⟨z1, z2⟩).mono ?_
          rintro e w2 ⟨k, hk, rfl, rfl⟩
          obtain ⟨q, hq, hq3⟩ : ∃ q : Nat, q < 3 ∧ (z.tdiv 16) % 3 = (q : Int) := ⟨((z.tdiv 16) % 3).toNat, by omega, by omega⟩
          obtain ⟨nu, hsl1, hsl2⟩ := abc_cut q hq
          have W3 : Hid (∀ (X : World) (m : Nat), Calls Try.prog 8 #[.int .i64 (z.tdiv 16), .int .i64 (3 : Int)] (X.drewN m) fun e w'' => e = .returned (.int .i64 (q : Int)) ∧ ∃ m', w'' = X.drewN m') := fun X m => (within_any (z.tdiv 16) 3 (X.drewN m) (by omega) (by omega) hz16).mono fun e w' ⟨h1, h2⟩ => ⟨by rw [h1, hq3], m, h2.symm⟩
          have T3 : Hid (∀ (X : World) (m : Nat), Calls Try.prog 57 #[.string ⟨#[97, 98, 99]⟩, .int .i64 3] (X.drewN m) fun e w'' => e = .returned (.string ⟨#[97, 98, 99]⟩) ∧ ∃ m', w'' = X.drewN m') := fun X m => (abc_text (X.drewN m)).mono fun e w' ⟨h1, h2⟩ => ⟨h1, m, h2.symm⟩
          obtain ⟨nm, hnm⟩ : ∃ x, abcN q = x := ⟨_, rfl⟩
          have hns : nm.size = 1 := by rw [← hnm]; exact abcN_size q
          rw [hnm] at hsl2
          clear hq3 hnm
          have W4 : Hid (∀ V, Calls Try.prog 8 #[.int .i64 (z.tdiv 64), .int .i64 (4 : Int)] V (WithinP 4 V)) := fun V => within_nat (z.tdiv 64) 4 V (by omega) (by omega) hz64
          go_wp2_with fail
          go_quiet (first
            | (go_at_call 57; exact T3.out _ _)
            | (go_at_call 8; exact W3.out _ _))
          go_wp2_with fail
          obtain ⟨U1, hU1⟩ : ∃ x, U.drewN nq = x := ⟨_, rfl⟩
          have hbU : Below U.heap.size U U1 := by rw [← hU1]; exact below_draws (Below.refl _ _) _
          rw [hU1]
          have H1 : Hid (GNds V.heap.size U1 (.slice (some ⟨g2, 0, none⟩) n' cap2) D ∧ GE (glst D) E ∧ TxK (glst D) ∧ Below W.heap.size W U1 ∧ Below W0.heap.size W0 U1) := ⟨HQ.out.1.below hbU, HQ.out.2.1, HQ.out.2.2.1, below_step HQ.out.2.2.2.1 hbU, below_step HQ.out.2.2.2.2 hbU⟩
          have cz1 := cell_keep hbU cz
          refine (W4.out U1).mono ?_
          rintro e w3 ⟨r, hr, rfl, rfl⟩
          obtain ⟨p, hp⟩ : ∃ x, D[k]? = some x := ⟨D[k]'(by rw [hDl]; exact hk), List.getElem?_eq_getElem _⟩
          have hrow := H1.out.1.row
          rw [hDl] at hrow
          have cc : ∀ j u, j < 10 → (gkC p)[j]? = some u → U1.cell? ⟨g2, k * 10 + j, none⟩ = some u := fun j u hj hu => by rw [hrow.cellAt _ (by omega), gksC_at D k j p hp hj]; exact hu
          have ff : ∀ j, U1.frozen? ⟨g2, k * 10 + j, none⟩ = false := fun j => hrow.frozenAt _
          obtain ⟨x, pv⟩ := p
          obtain ⟨KA, kc, epv, _⟩ := own_form (H1.out.1.kid k _ hp)
          simp only at epv
          subst epv
          obtain ⟨kl, hkl⟩ : ∃ y, x.kids.length = y := ⟨_, rfl⟩
          have a0 := cc 0 _ (by omega) rfl
          have a2 := cc 2 _ (by omega) rfl
          have a3 := cc 3 _ (by omega) rfl
          have a4 := cc 4 _ (by omega) rfl
          have a5 := cc 5 _ (by omega) rfl
          have a6 := cc 6 _ (by omega) rfl
          have a9 := cc 9 _ (by omega) rfl
          have f0 := ff 0
          have f1 := ff 1
          have f2 := ff 2
          have f3 := ff 3
          have f4 := ff 4
          have f9 := ff 9
          rw [Nat.add_zero] at a0 f0
          rw [hkl] at a9
          obtain ⟨kd, hkd⟩ : ∃ y, x.kind = y := ⟨_, rfl⟩
          rw [hkd] at a0
          have dk : (k : Int) < (n' : Int) := by omega
          obtain ⟨hx1, hx2, hx3⟩ := H1.out.2.2.1.1 x (List.mem_of_getElem? (glst_at hp))
          have HX := Lib.hid (And.intro hp (And.intro hkl (And.intro hkd (And.intro hx1 (And.intro hx2 hx3)))))
          have HC := Lib.hid (And.intro cc ff)
          have hbk : V.heap.size ≤ g2 := own_base hrow g2 rfl
          have hWU : W.heap.size ≤ g2 := by omega
          have hW0 : W0.heap.size ≤ g2 := by omega
          clear hp hrow cc ff hkl hkd hx1 hx2 hx3 cz
          have hr4 : r = 0 ∨ r = 1 ∨ r = 2 ∨ r = 3 := by omega
          clear hr
          rcases hr4 with rfl | rfl | rfl | rfl
          · by_cases h4 : kd = 4
            · subst h4
              go_wp2_with fail
              exact ⟨⟨i + 1, D, by omega, by omega, by go_num, hDl, H1.out⟩, by simp [intOf]; omega⟩
            · have h4' : (kd == 4) = false := beq_eq_false_iff_ne.2 h4
              have hs := GNds.set' H1.out.1 hDl HX.out.1 3 (by omega) (.string nm) (p' := ({ x with anchor := nm }, .slice KA x.kids.length kc)) rfl rfl rfl
              have HN : Hid (GNds V.heap.size (U1.setCell ⟨g2, k * 10 + 3, none⟩ (.string nm)) (.slice (some ⟨g2, 0, none⟩) n' cap2) (D.set k ({ x with anchor := nm }, .slice KA x.kids.length kc)) ∧ GE (glst (D.set k ({ x with anchor := nm }, .slice KA x.kids.length kc))) E ∧ TxK (glst (D.set k ({ x with anchor := nm }, .slice KA x.kids.length kc))) ∧ Below W.heap.size W (U1.setCell ⟨g2, k * 10 + 3, none⟩ (.string nm)) ∧ Below W0.heap.size W0 (U1.setCell ⟨g2, k * 10 + 3, none⟩ (.string nm))) :=
                ⟨hs.1, by rw [glst_set]; exact H1.out.2.1.set (glst_at HX.out.1) rfl (.inl rfl), by rw [glst_set]; exact H1.out.2.2.1.set ⟨(H1.out.2.2.1.2 x (List.mem_of_getElem? (glst_at HX.out.1))).1, fun e => absurd (HX.out.2.2.1 ▸ e) h4⟩ ⟨HX.out.2.2.2.1, by show nm.size ≤ _; omega, HX.out.2.2.2.2.2⟩, H1.out.2.2.2.1.setCell (p := ⟨g2, k * 10 + 3, none⟩) hWU _, H1.out.2.2.2.2.setCell (p := ⟨g2, k * 10 + 3, none⟩) hW0 _⟩
              clear hs
              go_wp2_with fail
              exact ⟨⟨i + 1, _, by omega, by omega, by go_num, by rw [List.length_set]; exact hDl, HN.out⟩, by simp [intOf]; omega⟩
          · by_cases h4 : kd = 4
            · subst h4
              go_wp2_with fail
              exact ⟨⟨i + 1, D, by omega, by omega, by go_num, hDl, H1.out⟩, by simp [intOf]; omega⟩
            · have h4' : (kd == 4) = false := beq_eq_false_iff_ne.2 h4
              have hs := GNds.set' H1.out.1 hDl HX.out.1 3 (by omega) (.string nm) (p' := ({ x with anchor := nm }, .slice KA x.kids.length kc)) rfl rfl rfl
              have HN : Hid (GNds V.heap.size (U1.setCell ⟨g2, k * 10 + 3, none⟩ (.string nm)) (.slice (some ⟨g2, 0, none⟩) n' cap2) (D.set k ({ x with anchor := nm }, .slice KA x.kids.length kc)) ∧ GE (glst (D.set k ({ x with anchor := nm }, .slice KA x.kids.length kc))) E ∧ TxK (glst (D.set k ({ x with anchor := nm }, .slice KA x.kids.length kc))) ∧ Below W.heap.size W (U1.setCell ⟨g2, k * 10 + 3, none⟩ (.string nm)) ∧ Below W0.heap.size W0 (U1.setCell ⟨g2, k * 10 + 3, none⟩ (.string nm))) :=
                ⟨hs.1, by rw [glst_set]; exact H1.out.2.1.set (glst_at HX.out.1) rfl (.inl rfl), by rw [glst_set]; exact H1.out.2.2.1.set ⟨(H1.out.2.2.1.2 x (List.mem_of_getElem? (glst_at HX.out.1))).1, fun e => absurd (HX.out.2.2.1 ▸ e) h4⟩ ⟨HX.out.2.2.2.1, by show nm.size ≤ _; omega, HX.out.2.2.2.2.2⟩, H1.out.2.2.2.1.setCell (p := ⟨g2, k * 10 + 3, none⟩) hWU _, H1.out.2.2.2.2.setCell (p := ⟨g2, k * 10 + 3, none⟩) hW0 _⟩
              clear hs
              go_wp2_with fail
              exact ⟨⟨i + 1, _, by omega, by omega, by go_num, by rw [List.length_set]; exact hDl, HN.out⟩, by simp [intOf]; omega⟩
          · by_cases hk0 : kl = 0
            · subst hk0
              have hxk : x.kids = [] := List.eq_nil_of_length_eq_zero HX.out.2.1
              have a1 := HC.out.1 1 _ (by omega) rfl
              have a7 := HC.out.1 7 _ (by omega) rfl
              have a8 := HC.out.1 8 _ (by omega) rfl
              have f5 := HC.out.2 5
              have f6 := HC.out.2 6
              have f7 := HC.out.2 7
              have f8 := HC.out.2 8
              go_wp2_with fail
              go_region
              obtain ⟨UX, hUX⟩ : ∃ t, ((((((((((U1.setCell ⟨g2, k * 10, none⟩ (.int .i64 4)).setCell ⟨g2, k * 10 + 1, none⟩ (.int .i64 0)).setCell ⟨g2, k * 10 + 2, none⟩ (.string ⟨#[]⟩)).setCell ⟨g2, k * 10 + 3, none⟩ (.string ⟨#[]⟩)).setCell ⟨g2, k * 10 + 4, none⟩ (.string nm)).setCell ⟨g2, k * 10 + 5, none⟩ (.int .i64 x.st)).setCell ⟨g2, k * 10 + 6, none⟩ (.int .i64 x.en)).setCell ⟨g2, k * 10 + 7, none⟩ (.int .i64 0)).setCell ⟨g2, k * 10 + 8, none⟩ (.int .i64 0)).setCell ⟨g2, k * 10 + 9, none⟩ (.slice none 0 0)).drew = t := ⟨_, rfl⟩
              rw [hUX]
              have hs : GNds V.heap.size ((((((((((U1.setCell ⟨g2, k * 10, none⟩ (.int .i64 4)).setCell ⟨g2, k * 10 + 1, none⟩ (.int .i64 0)).setCell ⟨g2, k * 10 + 2, none⟩ (.string ⟨#[]⟩)).setCell ⟨g2, k * 10 + 3, none⟩ (.string ⟨#[]⟩)).setCell ⟨g2, k * 10 + 4, none⟩ (.string nm)).setCell ⟨g2, k * 10 + 5, none⟩ (.int .i64 x.st)).setCell ⟨g2, k * 10 + 6, none⟩ (.int .i64 x.en)).setCell ⟨g2, k * 10 + 7, none⟩ (.int .i64 0)).setCell ⟨g2, k * 10 + 8, none⟩ (.int .i64 0)).setCell ⟨g2, k * 10 + 9, none⟩ (.slice none 0 0)) (.slice (some ⟨g2, 0, none⟩) n' cap2) (D.set k (⟨4, 0, ⟨#[]⟩, ⟨#[]⟩, nm, x.st, x.en, 0, 0, []⟩, .slice none 0 0)) := GNds.store10 H1.out.1 hDl HX.out.1 hxk (y := ⟨4, 0, ⟨#[]⟩, ⟨#[]⟩, nm, x.st, x.en, 0, 0, []⟩) rfl
              have HN : Hid (GNds V.heap.size UX (.slice (some ⟨g2, 0, none⟩) n' cap2) (D.set k (⟨4, 0, ⟨#[]⟩, ⟨#[]⟩, nm, x.st, x.en, 0, 0, []⟩, .slice none 0 0)) ∧ GE (glst (D.set k (⟨4, 0, ⟨#[]⟩, ⟨#[]⟩, nm, x.st, x.en, 0, 0, []⟩, .slice none 0 0))) E ∧ TxK (glst (D.set k (⟨4, 0, ⟨#[]⟩, ⟨#[]⟩, nm, x.st, x.en, 0, 0, []⟩, .slice none 0 0))) ∧ Below W.heap.size W UX ∧ Below W0.heap.size W0 UX) := by
                rw [← hUX]
                exact ⟨hs.below (Below.refl _ _).drew, by rw [glst_set]; exact H1.out.2.1.set (glst_at HX.out.1) hxk.symm (.inr rfl), by rw [glst_set]; exact H1.out.2.2.1.set ⟨.inr (.inr (.inr (.inr rfl))), fun _ => rfl⟩ ⟨Nat.zero_le _, Nat.zero_le _, by show nm.size ≤ _; omega⟩, ((((((((((H1.out.2.2.2.1.setCell (p := ⟨g2, k * 10, none⟩) hWU _).setCell (p := ⟨g2, k * 10 + 1, none⟩) hWU _).setCell (p := ⟨g2, k * 10 + 2, none⟩) hWU _).setCell (p := ⟨g2, k * 10 + 3, none⟩) hWU _).setCell (p := ⟨g2, k * 10 + 4, none⟩) hWU _).setCell (p := ⟨g2, k * 10 + 5, none⟩) hWU _).setCell (p := ⟨g2, k * 10 + 6, none⟩) hWU _).setCell (p := ⟨g2, k * 10 + 7, none⟩) hWU _).setCell (p := ⟨g2, k * 10 + 8, none⟩) hWU _).setCell (p := ⟨g2, k * 10 + 9, none⟩) hWU _).drew, ((((((((((H1.out.2.2.2.2.setCell (p := ⟨g2, k * 10, none⟩) hW0 _).setCell (p := ⟨g2, k * 10 + 1, none⟩) hW0 _).setCell (p := ⟨g2, k * 10 + 2, none⟩) hW0 _).setCell (p := ⟨g2, k * 10 + 3, none⟩) hW0 _).setCell (p := ⟨g2, k * 10 + 4, none⟩) hW0 _).setCell (p := ⟨g2, k * 10 + 5, none⟩) hW0 _).setCell (p := ⟨g2, k * 10 + 6, none⟩) hW0 _).setCell (p := ⟨g2, k * 10 + 7, none⟩) hW0 _).setCell (p := ⟨g2, k * 10 + 8, none⟩) hW0 _).setCell (p := ⟨g2, k * 10 + 9, none⟩) hW0 _).drew⟩
              clear hs hUX
              go_wp2_with fail
              exact ⟨⟨i + 1, _, by omega, by omega, by go_num, by rw [List.length_set]; exact hDl, HN.out⟩, by simp [intOf]; omega⟩
            · have hk0' : ((kl : Int) == 0) = false := by rw [beq_eq_false_iff_ne]; omega
              go_wp2_with fail
              exact ⟨⟨i + 1, D, by omega, by omega, by go_num, hDl, H1.out⟩, by simp [intOf]; omega⟩
          · by_cases hk0 : kl = 0
            · subst hk0
              by_cases h1 : kd = 1
              · subst h1
                have hs1 := GNds.set' H1.out.1 hDl HX.out.1 2 (by omega) (.string ⟨#[33, 33, 115, 116, 114]⟩) (p' := ({ x with tag := ⟨#[33, 33, 115, 116, 114]⟩ }, .slice KA x.kids.length kc)) rfl rfl rfl
                have hs2 := GNds.set' hs1.1 hs1.2.1 hs1.2.2 4 (by omega) (.string ⟨#[115, 97, 109, 101]⟩) (p' := ({ x with tag := ⟨#[33, 33, 115, 116, 114]⟩, value := ⟨#[115, 97, 109, 101]⟩ }, .slice KA x.kids.length kc)) rfl rfl rfl
                rw [List.set_set] at hs2
                obtain ⟨U2, hU2⟩ : ∃ y, U1.setCell ⟨g2, k * 10 + 2, none⟩ (.string ⟨#[33, 33, 115, 116, 114]⟩) = y := ⟨_, rfl⟩
                rw [hU2] at hs2
                have b4 : U2.cell? ⟨g2, k * 10 + 4, none⟩ = some (.string x.value) := by
                  have hr2 := hs1.1.row
                  rw [hs1.2.1, hU2] at hr2
                  rw [hr2.cellAt _ (by omega), gksC_at _ k 4 _ hs1.2.2 (by omega)]
                  rfl
                have g4 : U2.frozen? ⟨g2, k * 10 + 4, none⟩ = false := by
                  have hr2 := hs1.1.row
                  rw [hs1.2.1, hU2] at hr2
                  exact hr2.frozenAt _
                have HN : Hid (GNds V.heap.size (U2.setCell ⟨g2, k * 10 + 4, none⟩ (.string ⟨#[115, 97, 109, 101]⟩)) (.slice (some ⟨g2, 0, none⟩) n' cap2) (D.set k ({ x with tag := ⟨#[33, 33, 115, 116, 114]⟩, value := ⟨#[115, 97, 109, 101]⟩ }, .slice KA x.kids.length kc)) ∧ GE (glst (D.set k ({ x with tag := ⟨#[33, 33, 115, 116, 114]⟩, value := ⟨#[115, 97, 109, 101]⟩ }, .slice KA x.kids.length kc))) E ∧ TxK (glst (D.set k ({ x with tag := ⟨#[33, 33, 115, 116, 114]⟩, value := ⟨#[115, 97, 109, 101]⟩ }, .slice KA x.kids.length kc))) ∧ Below W.heap.size W (U2.setCell ⟨g2, k * 10 + 4, none⟩ (.string ⟨#[115, 97, 109, 101]⟩)) ∧ Below W0.heap.size W0 (U2.setCell ⟨g2, k * 10 + 4, none⟩ (.string ⟨#[115, 97, 109, 101]⟩))) :=
                  ⟨hs2.1, by rw [glst_set]; exact H1.out.2.1.set (glst_at HX.out.1) rfl (.inl rfl), by rw [glst_set]; exact H1.out.2.2.1.set ⟨(H1.out.2.2.1.2 x (List.mem_of_getElem? (glst_at HX.out.1))).1, fun e => (H1.out.2.2.1.2 x (List.mem_of_getElem? (glst_at HX.out.1))).2 e⟩ ⟨by show ByteArray.size ⟨#[33, 33, 115, 116, 114]⟩ ≤ 1000000; decide, HX.out.2.2.2.2.1, by show ByteArray.size ⟨#[115, 97, 109, 101]⟩ ≤ 1000000; decide⟩, by rw [← hU2]; exact (H1.out.2.2.2.1.setCell (p := ⟨g2, k * 10 + 2, none⟩) hWU _).setCell (p := ⟨g2, k * 10 + 4, none⟩) hWU _, by rw [← hU2]; exact (H1.out.2.2.2.2.setCell (p := ⟨g2, k * 10 + 2, none⟩) hW0 _).setCell (p := ⟨g2, k * 10 + 4, none⟩) hW0 _⟩
                clear hs1 hs2
                go_wp2_with fail
                exact ⟨⟨i + 1, _, by omega, by omega, by go_num, by rw [List.length_set]; exact hDl, HN.out⟩, by simp [intOf]; omega⟩
              · have h1' : (kd == 1) = false := beq_eq_false_iff_ne.2 h1
                go_wp2_with fail
                exact ⟨⟨i + 1, D, by omega, by omega, by go_num, hDl, H1.out⟩, by simp [intOf]; omega⟩
            · have hk0' : ((kl : Int) == 0) = false := by rw [beq_eq_false_iff_ne]; omega
              go_wp2_with fail
              exact ⟨⟨i + 1, D, by omega, by omega, by go_num, hDl, H1.out⟩, by simp [intOf]; omega⟩
        · obtain rfl : i = 8 := by omega
          go_wp2_with fail
          go_ret
          have hgl := HQ.out.1.gl hDl
          exact ⟨g2, n', cap2, glst D, E, rfl, hn1, hn2, hgl.le, hgl.max, hgl, HQ.out.2.1, HQ.out.2.2.1, HQ.out.2.2.2.1⟩
      · have dt : ¬ (i : Int) < (n3 : Int) := by omega
        go_wp2_with fail
        go_ret
        have hgl := HQ.out.1.gl hDl
        exact ⟨g2, n', cap2, glst D, E, rfl, hn1, hn2, hgl.le, hgl.max, hgl, HQ.out.2.1, HQ.out.2.2.1, HQ.out.2.2.2.1⟩
end Go.Proofs.Ytcddlconcngjlaa
