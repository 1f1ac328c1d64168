/- The document's Move of a list of nodes of any kind: a copy, its Kids by so many more. · Chapter 13: the document's own: of a tree's node the size of what is below it (scholiumref08.Size), and how many collections stand in one another there (scholiumref08.DepthFrom). · Chapter 13: the document's Sub and Shift. · Chapter 13: a Kid counted anew in a list of our own; the document's Graft: its Kids counted anew. · Chapter 13: the document's Graft. · Chapter 13: the same tree, as the laws see it (scholiumkeep.Tree), of any two lists. · Chapter 13: the document's DepthFrom. · Chapter 13: where the nodes of a made tree lie: nowhere behind the text's end. No program. · Chapter 13: the law's trees, and where their nodes lie. · Chapter 13: what the law TreeTells wants besides: whose Kid a node is, said twice; the same tree of any lengths. -/
import Derived.Test.YtcddlconcngjlaaPM
import Derived.Test.YtcddlconcngjlaaPN
import Derived.Test.YtcddlconcngjlaaPO
set_option linter.unusedSimpArgs false
set_option linter.unusedVariables false
namespace Go.Proofs.Ytcddlconcngjlaa
open Go.RowKit
set_option linter.unusedVariables false
set_option linter.unusedSimpArgs false
set_option maxRecDepth 100000
set_option maxHeartbeats 8000000 in
theorem gmove_at {W : World} {A : Option Addr} {n cap : Nat} {d : Int} {l : List Gn} (hL : GL W A n cap l) (hS : Small l) (hn : n ≤ 1000000) (hd : -1000000000 ≤ d) (hd2 : d ≤ 1000000000) :
    Calls Try.prog 25 #[.slice A n cap, .int .i64 d] W (NewG W (l.map (Gn.mapK (· + d)))) := by
  obtain ⟨L, hLl, hLn, hrd, hks⟩ := hL.gk
  have hle := hL.le
  have hmx := hL.max
  have hone : ∀ u ∈ gksC L, u.oneCell' = true := by
    intro u hu
    obtain ⟨p, hp, hu⟩ := List.mem_flatMap.1 hu
    obtain ⟨i, hi⟩ := List.mem_iff_getElem?.1 hp
    obtain ⟨K, c, e, _⟩ := hks i p hi
    simp only [gkC, gnC, List.mem_cons, List.not_mem_nil, or_false] at hu
    rcases hu with rfl | rfl | rfl | rfl | rfl | rfl | rfl | rfl | rfl | rfl
    all_goals first | rfl | (rw [e]; rfl)
  obtain ⟨v1, W1, hrun, hown, hg, hv⟩ := run_append_rows Try.underlying26 node_info rfl (by omega) (by omega) W W.heap.size (.slice none 0 0) 0 [] (own_nil _ _ _ _) (Nat.le_refl _) A n cap (gksC L) (by rw [gksC_len, hLn]) hrd hone (by omega)
  rw [Nat.zero_add, List.nil_append] at hown
  have hb1 : Below W.heap.size W W1 := (Below.refl _ _).grown hg (Nat.le_refl _) (fun k hk => by cases hk)
  obtain ⟨A2, cap2, rfl, m1, m2, _⟩ := own_form hown
  have HRUN := Lib.hid hrun
  have HB1 := Lib.hid hb1
  have HROW := Lib.hid hown
  have HK := Lib.hid hks
  have HS : Hid (∀ (i : Nat) (p : GK), L[i]? = some p → p.1.kids.length ≤ 1000000 ∧ ∀ k ∈ p.1.kids, -4611686018427387904 ≤ k ∧ k ≤ 4611686018427387904) := fun i p hp => hS p.1 (by rw [← hLl]; exact List.mem_map.2 ⟨p, List.mem_of_getElem? hp, rfl⟩)
  have HRD := Lib.hid hrd
  have HLL := Lib.hid hLl
  have HLN := Lib.hid hLn
  clear hrd hks hone hL hS hLl hLn hrun hown hg hv hb1
  go_enter Try.func25, Try.ntmps25
  go_wp2_with (at_builtin; refine wpList_append_known rfl (.const (.slice none 0 0)) (.tmp 9) 26 rfl (.slice none 0 0) (.slice A n cap) _ W1 rfl rfl HRUN.out ?_)
  go_loopw [13] (fun q V => ∃ (t : Nat) (P : List GK), t ≤ n ∧ q = .int .i64 (t : Int) ∧ Hid (Cpy W.heap.size V (.slice A2 n cap2) L (· + d) t P ∧ Below W.heap.size W V)) (fun q _ => n - (intOf q).toNat)
  case atStart => exact ⟨0, L, Nat.zero_le _, rfl, Cpy.start (by rw [HLN.out]; exact HROW.out), HB1.out⟩
  case round =>
    obtain ⟨t, P, ht, rfl, HQ⟩ := hrel
    obtain ⟨V, hV⟩ : ∃ z, z = wr := ⟨_, rfl⟩
    subst hV
    by_cases hlt : t < n
    · have dt : (t : Int) < (n : Int) := by omega
      obtain ⟨g2, rfl, hg2, hg2V⟩ := row_addr (HLN.out ▸ HQ.out.1.row) (by omega)
      obtain ⟨x, hx⟩ : ∃ x, L[t]? = some x := ⟨L[t]'(by rw [HLN.out]; omega), List.getElem?_eq_getElem _⟩
      obtain ⟨K, c, ek, k1, k2, k3, hkr⟩ := HK.out t x hx
      have y9 : V.cell? ⟨g2, t * 10 + 9, none⟩ = some (.slice K x.1.kids.length c) := by
        have hr := HQ.out.1.row
        rw [HLN.out] at hr
        have hPt : P[t]? = some x := by rw [HQ.out.1.rest t (Nat.le_refl _)]; exact hx
        rw [hr.cellAt _ (by omega), gksC_at P t 9 x hPt (by omega), ← ek]
        rfl
      obtain ⟨s1, s2⟩ := HS.out t x hx
      obtain ⟨ks, hks⟩ : ∃ z, x.1.kids = z := ⟨_, rfl⟩
      obtain ⟨kl, hkl⟩ : ∃ z, ks.length = z := ⟨_, rfl⟩
      rw [hks, hkl] at y9
      rw [hks] at hkr s1 s2 k1
      rw [hkl] at s1 k1
      obtain ⟨kv, V1, hrun1, hown1, hg1, hv1⟩ := run_append_rows Try.underlying22 int_info rfl (by omega) (by omega) V V.heap.size (.slice none 0 0) 0 [] (own_nil _ _ _ _) (Nat.le_refl _) K kl c (ki ks) (by rw [ki_len, hkl]; omega) (hkr.below HQ.out.2) (ki_one ks) (by omega)
      rw [Nat.zero_add, List.nil_append] at hown1
      have hbV : Below V.heap.size V V1 := (Below.refl _ _).grown hg1 (Nat.le_refl _) (fun k hk => by cases hk)
      obtain ⟨K2, c2, rfl, n1, n2, _⟩ := own_form hown1
      have HX := Lib.hid (And.intro hx (And.intro hks (And.intro hkl s2)))
      have HI := Lib.hid (And.intro hown1 hbV)
      have HRUN1 := Lib.hid hrun1
      have hz2 : V.frozen? ⟨g2, t * 10 + 9, none⟩ = false := (HLN.out ▸ HQ.out.1.row).frozenAt _
      clear hkr hx ek k3 hks hkl s2 hrun1 hown1 hg1 hv1 hbV
      go_wp2_with (at_builtin; refine wpList_append_known rfl (.const (.slice none 0 0)) (.tmp 20) 22 rfl (.slice none 0 0) (.slice K kl c) _ V1 rfl rfl HRUN1.out ?_)
      clear y9
      go_loopw [24] (fun q V2 => ∃ j : Nat, j ≤ kl ∧ q = .int .i64 (j : Int) ∧ Hid (V2.ownsRow V.heap.size 3 1 (.slice K2 kl c2) kl (ki (mixK (· + d) ks j)) ∧ Below V.heap.size V V2)) (fun q _ => kl - (intOf q).toNat)
      case atStart => exact ⟨0, Nat.zero_le _, rfl, by rw [mixK_zero]; exact HI.out.1, HI.out.2⟩
      case round =>
        obtain ⟨j, hj, rfl, HJ⟩ := hrel
        obtain ⟨V2, hV2⟩ : ∃ z, z = wr := ⟨_, rfl⟩
        subst hV2
        by_cases hjl : j < kl
        · have dj : (j : Int) < (kl : Int) := by omega
          obtain ⟨kb, rfl, hkb, hkb2⟩ := row_addr HJ.out.1 (by omega)
          obtain ⟨k, hk⟩ : ∃ z, ks[j]? = some z := ⟨ks[j]'(by rw [HX.out.2.2.1]; omega), List.getElem?_eq_getElem _⟩
          obtain ⟨b1, b2⟩ := HX.out.2.2.2 k (List.mem_of_getElem? hk)
          have ck : V2.cell? ⟨kb, j, none⟩ = some (.int .i64 k) := by rw [HJ.out.1.cellAt _ (by omega), ki_at (mixK_at hk)]
          have fz := HJ.out.1.frozenAt j
          have hw : IntKind.i64.wrap (k + d) = k + d := IntWalk.i64_in _ (by omega)
          have HN : Hid ((V2.setCell ⟨kb, j, none⟩ (.int .i64 (k + d))).ownsRow V.heap.size 3 1 (.slice (some ⟨kb, 0, none⟩) kl c2) kl (ki (mixK (· + d) ks (j + 1))) ∧ Below V.heap.size V (V2.setCell ⟨kb, j, none⟩ (.int .i64 (k + d)))) := by
            refine ⟨?_, HJ.out.2.setCell (p := ⟨kb, j, none⟩) hkb _⟩
            rw [← mixK_step hk]
            exact (HJ.out.1.stored j _).1
          clear hk
          go_wp2_with fail
          go_roundw
          case rel => exact ⟨j + 1, by omega, by go_num, HN.out⟩
          case measure => simp [intOf]; omega
        · obtain rfl : j = kl := by omega
          have z2 : V2.frozen? ⟨g2, t * 10 + 9, none⟩ = false := (HLN.out ▸ (HQ.out.1.below HJ.out.2).row).frozenAt _
          have z3 : V2.cell? ⟨g2, t * 10 + 9, none⟩ = some x.2 := by
            have hq := HQ.out.1.below HJ.out.2
            have hPt : P[t]? = some x := by rw [hq.rest t (Nat.le_refl _)]; exact HX.out.1
            have hr := hq.row
            rw [HLN.out] at hr
            rw [hr.cellAt _ (by omega), gksC_at P t 9 x hPt (by omega)]
            rfl
          have HN : Hid (Cpy W.heap.size (V2.setCell ⟨g2, t * 10 + 9, none⟩ (.slice K2 j c2)) (.slice (some ⟨g2, 0, none⟩) n cap2) L (· + d) (t + 1) (P.set t (x.1.mapK (· + d), .slice K2 j c2)) ∧ Below W.heap.size W (V2.setCell ⟨g2, t * 10 + 9, none⟩ (.slice K2 j c2))) := by
            have hx := HX.out
            have hW : W.heap.size ≤ V.heap.size := HQ.out.2.size
            refine ⟨?_, (below_step HQ.out.2 HJ.out.2).setCell (p := ⟨g2, t * 10 + 9, none⟩) hg2 _⟩
            have hq := HQ.out.1
            have hm : mixK (· + d) ks j = ks.map (· + d) := by rw [← hx.2.2.1]; exact mixK_all _ _
            have hr := HJ.out.1
            rw [hm] at hr
            have hst := Cpy.step (V2 := V2) (kv := .slice K2 j c2) (cap := cap2) (g := g2) (i := t) (x := x) (l := L) (P := P) (f := (· + d)) (by rw [HLN.out]; exact hq) hx.1 HJ.out.2 hW (by rw [hx.2.1, hx.2.2.1]; exact hr)
            rw [HLN.out] at hst
            exact hst
          go_wp2_with fail
          first
          | exact ⟨⟨t + 1, _, by omega, by go_num, HN.out⟩, by simp [intOf]; omega⟩
          | (repeat apply Exists.intro
             exact ⟨⟨t + 1, _, by omega, by go_num, HN.out⟩, by simp [intOf]; omega⟩)
    · obtain rfl : t = n := by omega
      go_wp2_with fail
      go_ret
      obtain ⟨q1, q2⟩ := HQ.out.1.end_ HLN.out
      exact ⟨A2, t, cap2, P, rfl, m1, m2, q1, by rw [HQ.out.1.len]; exact HLN.out, by rw [q2, HLL.out], HQ.out.2⟩
/-- Where the next Kid's tree begins, behind so many of them. -/
def kpos (E : Nat → Nat) (a : Nat) (ks : List Int) : Nat → Nat
  | 0 => a + 1
  | j + 1 => E (ks.getD j 0).toNat
section
variable {l : List Gn} {E : Nat → Nat} {a : Nat} {x : Gn}
theorem kpos_succ {ks : List Int} {j : Nat} {k : Int} (hk : ks[j]? = some k) : kpos E a ks (j + 1) = E k.toNat := by
  simp [kpos, hk]
theorem GE.kpos_kid (h : GE l E) (hx : l[a]? = some x) {j : Nat} {k : Int} (hk : x.kids[j]? = some k) : k = (kpos E a x.kids j : Int) ∧ k.toNat = kpos E a x.kids j := by
  obtain ⟨q0, q1, q2, q3, q4, q5⟩ := h.kid hx hk
  cases j with
  | zero =>
    have := q5 rfl
    simp only [kpos]
    omega
  | succ j =>
    obtain ⟨u, hu⟩ : ∃ u, x.kids[j]? = some u := ⟨_, List.getElem?_eq_getElem (by have := (List.getElem?_eq_some_iff.1 hk).1; omega)⟩
    obtain ⟨_, _, _, p3, _⟩ := h.kid hx hu
    have := p3 k hk
    rw [kpos_succ hu]
    omega
theorem GE.kpos_end (h : GE l E) (hx : l[a]? = some x) : kpos E a x.kids x.kids.length = E a := by
  rcases Nat.eq_zero_or_pos x.kids.length with e | e
  · have e2 : x.kids.map Int.toNat = [] := by rw [List.eq_nil_of_length_eq_zero e]; rfl
    have hr := h.row hx
    rw [e2] at hr
    rw [e]
    exact hr
  · obtain ⟨j, hj⟩ : ∃ j, x.kids.length = j + 1 := ⟨x.kids.length - 1, by omega⟩
    obtain ⟨u, hu⟩ : ∃ u, x.kids[j]? = some u := ⟨_, List.getElem?_eq_getElem (by omega)⟩
    obtain ⟨_, _, _, _, p4, _⟩ := h.kid hx hu
    rw [hj, kpos_succ hu, p4 hj]
end
section
variable {W : World} {g cap n : Nat} {l : List Gn} {E : Nat → Nat}
set_option maxHeartbeats 8000000 in
theorem rsize_at (hL : GL W (some ⟨g, 0, none⟩) n cap l) (hE : GE l E) (hn : n ≤ 1000000) :
    ∀ (f s : Nat), s < n → E s - s ≤ f → Calls Try.prog 44 #[.slice (some ⟨g, 0, none⟩) n cap, .int .i64 (s : Int)] W fun e w' => e = .returned (.int .i64 ((E s - s : Nat) : Int)) ∧ W = w' := by
  intro f
  induction f with
  | zero =>
    intro s hs hf
    have := (hE.lt (by rw [hL.len]; exact hs)).1
    omega
  | succ f ih =>
    intro s hs hf
    have hsl : s < l.length := by rw [hL.len]; exact hs
    obtain ⟨x, hx⟩ : ∃ x, l[s]? = some x := ⟨_, List.getElem?_eq_getElem hsl⟩
    have hlt := hE.lt hsl
    rw [hL.len] at hlt
    have ds : (s : Int) < (n : Int) := by omega
    have hS := hE.small (by rw [hL.len]; exact hn)
    obtain ⟨hkn, _⟩ := hS x (List.mem_of_getElem? hx)
    obtain ⟨g1, o1, eA, K, c, a1, a2, a3, a4, a5⟩ := hL.at_ s x hx
    injection eA with eA
    injection eA with e1 e2
    subst e1 e2
    have y9 := a5 9 _ rfl
    rw [Nat.zero_add] at y9
    have IH := Lib.hid ih
    have HLN := Lib.hid hL.len
    have HE := Lib.hid hE
    have HKE := Lib.hid (hE.kpos_end hx)
    have HX := Lib.hid hx
    obtain ⟨kl, hkl⟩ : ∃ z, x.kids.length = z := ⟨_, rfl⟩
    rw [hkl] at y9 a1 hkn
    have HKL := Lib.hid hkl
    have HRD := Lib.hid a4
    clear ih hx hL hE hS a5 a4 hkl hsl
    go_enter Try.func44, Try.ntmps44
    go_wp2_with fail
    go_loopw [14, 5] (fun i m V => ∃ j : Nat, j ≤ kl ∧ i = .int .i64 (j : Int) ∧ V = W ∧ ∃ z : Nat, z ≤ 1000000 ∧ m = .int .i64 (z : Int) ∧ Hid (z + s = kpos E s x.kids j)) (fun i _ _ => kl - (intOf i).toNat)
    case atStart => exact ⟨0, Nat.zero_le _, rfl, by trivial, 1, by omega, rfl, Nat.add_comm _ _⟩
    case round =>
      obtain ⟨j, hj, rfl, rfl, z, hz, rfl, HZ⟩ := hrel
      by_cases hjl : j < kl
      · have dj : (j : Int) < (kl : Int) := by omega
        obtain ⟨k, hk⟩ : ∃ z, x.kids[j]? = some z := ⟨x.kids[j]'(by rw [HKL.out]; omega), List.getElem?_eq_getElem _⟩
        obtain ⟨gk, ok, rfl, hcell⟩ := HRD.out.addr (by rw [ki_len, HKL.out]; omega)
        have ck := hcell j _ (ki_at hk)
        obtain ⟨p1, p2, p3, _⟩ := HE.out.kid HX.out hk
        have p4 := HE.out.last_le HX.out _ j k (Nat.le_refl _) hk
        obtain ⟨p5, p6⟩ := HE.out.kpos_kid HX.out hk
        have p7 := HE.out.lt p3
        rw [HLN.out] at p3 p7
        have p8 : kpos E s x.kids (j + 1) = E k.toNat := kpos_succ hk
        obtain ⟨t, rfl⟩ : ∃ t : Nat, k = (t : Int) := ⟨k.toNat, by omega⟩
        rw [Int.toNat_natCast] at p2 p3 p4 p6 p7 p8
        have CI := Lib.hid (IH.out t p3 (by omega))
        have hzo := HZ.out
        have HN : Hid (z + (E t - t) + s = kpos E s x.kids (j + 1)) := by rw [p8]; show z + (E t - t) + s = E t; omega
        obtain ⟨y, hy⟩ : ∃ y, E t - t = y := ⟨_, rfl⟩
        rw [hy] at CI HN
        have hyb : z + y ≤ 1000000 := by have := HN.out; omega
        have w1 : IntKind.i64.wrap ((z : Int) + (y : Int)) = ((z + y : Nat) : Int) := by rw [IntWalk.i64_in _ (by omega)]; omega
        clear hk hcell p1 p2 p4 p5 p6 p7 p8 hzo hy
        go_wp2_with fail
        refine CI.out.mono ?_
        clear CI
        rintro e w3 ⟨rfl, rfl⟩
        go_wp2_with fail
        go_roundw
        case rel => exact ⟨j + 1, by omega, by go_num, by trivial, z + y, hyb, by go_num, HN⟩
        case measure => simp [intOf]; omega
      · obtain rfl : j = kl := by omega
        have hzz : z = E s - s := by
          have h1 := HZ.out
          have h2 := HKE.out
          rw [HKL.out] at h2
          omega
        have HZZ := Lib.hid hzz
        clear hzz
        go_wp2_with fail
        go_ret
        exact ⟨by rw [← HZZ.out]; rfl, by trivial⟩
end
theorem map_neg (l : List Gn) (a : Int) : l.map (Gn.mapK (· + -a)) = l.map (Gn.mapK (· - a)) := by
  have : (fun k : Int => k + -a) = (fun k => k - a) := by funext k; omega
  rw [this]
theorem map_zero (l : List Gn) : l.map (Gn.mapK (· + (0 : Int))) = l := by
  have : (fun k : Int => k + 0) = (fun k => k) := by funext k; omega
  rw [this]
  exact (List.map_congr_left fun x _ => mapK_id x).trans (List.map_id l)
set_option maxHeartbeats 8000000 in
theorem rsub_at {W : World} {g n cap : Nat} {l : List Gn} {E : Nat → Nat} (hL : GL W (some ⟨g, 0, none⟩) n cap l) (hE : GE l E) (hn : n ≤ 1000000) (a : Int) :
    Calls Try.prog 11 #[.slice (some ⟨g, 0, none⟩) n cap, .int .i64 a] W (NewG W (subF l a)) := by
  have hle := hL.le
  have hmx := hL.max
  by_cases hin : 0 ≤ a ∧ a < (n : Int)
  · obtain ⟨a0, rfl⟩ : ∃ a0 : Nat, a = (a0 : Int) := ⟨a.toNat, by omega⟩
    have ha : a0 < n := by omega
    have hal : a0 < l.length := by rw [hL.len]; exact ha
    have hlt := hE.lt hal
    rw [hL.len] at hlt
    have CS := Lib.hid (rsize_at hL hE hn _ a0 ha (Nat.le_refl _))
    obtain ⟨A', hsl, hcut⟩ := sliceN_lh hL a0 (E a0) (by omega) hlt.2
    have CM := Lib.hid (gmove_at (d := -(a0 : Int)) (hcut W hL) ((hE.small (by rw [hL.len]; exact hn)).sub _ _) (by omega) (by omega) (by omega))
    have HSUB := Lib.hid (hE.sub_eq hal)
    obtain ⟨R, hR⟩ : ∃ z, E a0 = z := ⟨_, rfl⟩
    obtain ⟨m, hm⟩ : ∃ z, R - a0 = z := ⟨_, rfl⟩
    obtain ⟨cc, hcc⟩ : ∃ z, cap - a0 = z := ⟨_, rfl⟩
    rw [hR, hm] at CS
    rw [hR, hm, hcc] at CM hsl
    rw [hR] at hlt
    have dn : ¬ ((a0 : Int) < 0) := by omega
    have dn2 : ¬ ((n : Int) ≤ (a0 : Int)) := by omega
    have w1 : IntKind.i64.wrap ((a0 : Int) + (m : Int)) = (R : Int) := by rw [IntWalk.i64_in _ (by omega)]; omega
    have w2 : IntKind.i64.wrap (-(a0 : Int)) = -(a0 : Int) := IntWalk.i64_in _ (by omega)
    have HR := Lib.hid hR
    clear hL hE hcut hin hR hm hcc hal
    go_enter Try.func11, Try.ntmps11
    go_wp2_with fail
    refine CS.out.mono ?_
    clear CS
    rintro e w2 ⟨rfl, rfl⟩
    go_wp2_with fail
    refine CM.out.mono ?_
    clear CM
    rintro e W2 ⟨A2, m2, cap2, P, rfl, q1, q2, q3, q4, q5, q6⟩
    have HN := Lib.hid (And.intro q3 (And.intro q4 (And.intro q5 q6)))
    clear q3 q4 q5 q6
    go_wp2_with fail
    go_ret
    exact ⟨A2, m2, cap2, P, rfl, q1, q2, HN.out.1, HN.out.2.1, by rw [HN.out.2.2.1, HSUB.out, map_neg, HR.out], HN.out.2.2.2⟩
  · have hsub : Hid (subF l a = []) := by
      show subF l a = []
      unfold subF
      rw [if_neg (by rw [hL.len]; exact hin)]
    clear hL hE
    by_cases h0 : a < 0
    · go_enter Try.func11, Try.ntmps11
      go_wp2_with fail
      go_ret
      rw [hsub.out]
      exact ⟨none, 0, 0, [], rfl, by omega, by omega, GNds.nil _ _, rfl, rfl, Below.refl _ _⟩
    · have h1 : (n : Int) ≤ a := by omega
      go_enter Try.func11, Try.ntmps11
      go_wp2_with fail
      go_ret
      rw [hsub.out]
      exact ⟨none, 0, 0, [], rfl, by omega, by omega, GNds.nil _ _, rfl, rfl, Below.refl _ _⟩
set_option maxHeartbeats 8000000 in
theorem rshift_at {W : World} {A : Option Addr} {n cap : Nat} {b : Int} {l : List Gn} (hL : GL W A n cap l) (hS : Small l) (hn : n ≤ 1000000) (hN : ∀ x ∈ l, Near x) (hb1 : -4611686018427387904 ≤ b) (hb2 : b ≤ 4611686018427387903) :
    Calls Try.prog 13 #[.slice A n cap, .int .i64 b] W (NewG W (l.map (shG b))) := by
  have hle := hL.le
  have hmx := hL.max
  have CC := Lib.hid (gmove_at (d := 0) hL hS hn (by omega) (by omega))
  rw [map_zero] at CC
  have hll := hL.len
  have HN := Lib.hid hN
  have HLN := Lib.hid hL.len
  clear hL hS hN
  go_enter Try.func13, Try.ntmps13
  go_wp2_with fail
  refine CC.out.mono ?_
  clear CC
  rintro e W1 ⟨A2, n', cap2, P0, rfl, m1, m2, g1, g2, g3', g4⟩
  obtain rfl : n = n' := by rw [← g2, ← hll, ← g3']; simp [glst]
  have HG := Lib.hid (And.intro g1 (And.intro g2 (And.intro g3' g4)))
  clear g1 g2 g3' g4 hll
  go_wp2_with fail
  go_loopw [11] (fun i V => ∃ (t : Nat) (P : List GK), t ≤ n ∧ i = .int .i64 (t : Int) ∧ Hid (GNds W.heap.size V (.slice A2 n cap2) P ∧ P.length = n ∧ glst P = (l.take t).map (shG b) ++ l.drop t ∧ Below W.heap.size W V)) (fun i _ => n - (intOf i).toNat)
  case atStart => exact ⟨0, P0, Nat.zero_le _, rfl, HG.out.1, HG.out.2.1, by simp [HG.out.2.2.1], HG.out.2.2.2⟩
  case round =>
    obtain ⟨t, P, ht, rfl, HQ⟩ := hrel
    obtain ⟨V, hV⟩ : ∃ z, z = wr := ⟨_, rfl⟩
    subst hV
    by_cases hlt : t < n
    · have dt : (t : Int) < (n : Int) := by omega
      obtain ⟨g, rfl, hgB, _⟩ := row_addr (HQ.out.2.1 ▸ HQ.out.1.row) (by omega)
      obtain ⟨x, hx⟩ : ∃ x, l[t]? = some x := ⟨l[t]'(by rw [HLN.out]; omega), List.getElem?_eq_getElem _⟩
      obtain ⟨p, hp⟩ : ∃ p, P[t]? = some p := ⟨P[t]'(by rw [HQ.out.2.1]; omega), List.getElem?_eq_getElem _⟩
      obtain ⟨y, kv⟩ := p
      have hyx : y = x := by
        have h1 : (glst P)[t]? = some y := by simp [glst, hp]
        rw [HQ.out.2.2.1, List.getElem?_append_right (by simp; omega), List.getElem?_drop] at h1
        simp only [List.length_map, List.length_take] at h1
        rw [show t + (t - min t l.length) = t by rw [HLN.out]; omega, hx] at h1
        injection h1 with h1
        exact h1.symm
      subst hyx
      obtain ⟨n1, n2, n3, n4, n5, n6, n7, n8⟩ := HN.out y (List.mem_of_getElem? hx)
      have hq : GNds W.heap.size V (.slice (some ⟨g, 0, none⟩) P.length cap2) P := by rw [HQ.out.2.1]; exact HQ.out.1
      have cell : ∀ (j : Nat) (u : Value), (gnC y kv)[j]? = some u → V.cell? ⟨g, t * 10 + j, none⟩ = some u := fun j u hu => by
        rw [hq.row.cellAt _ (by have := (List.getElem?_eq_some_iff.1 hu).1; have : j < 10 := this; rw [HQ.out.2.1]; omega), gksC_at P t j _ hp (by have := (List.getElem?_eq_some_iff.1 hu).1; exact this)]
        exact hu
      have y5 := cell 5 _ rfl
      have y6 := cell 6 _ rfl
      have y7 := cell 7 _ rfl
      have y8 := cell 8 _ rfl
      have z5 := hq.row.frozenAt (t * 10 + 5)
      have z6 := hq.row.frozenAt (t * 10 + 6)
      have z7 := hq.row.frozenAt (t * 10 + 7)
      have z8 := hq.row.frozenAt (t * 10 + 8)
      have HF : Hid (∃ P2 : List GK, GNds W.heap.size ((((V.setCell ⟨g, t * 10 + 5, none⟩ (.int .i64 (y.st + b))).setCell ⟨g, t * 10 + 6, none⟩ (.int .i64 (y.en + b))).setCell ⟨g, t * 10 + 7, none⟩ (.int .i64 (y.hd + b))).setCell ⟨g, t * 10 + 8, none⟩ (.int .i64 (y.mr + b))) (.slice (some ⟨g, 0, none⟩) n cap2) P2 ∧ P2.length = n ∧ glst P2 = (l.take (t + 1)).map (shG b) ++ l.drop (t + 1) ∧ Below W.heap.size W ((((V.setCell ⟨g, t * 10 + 5, none⟩ (.int .i64 (y.st + b))).setCell ⟨g, t * 10 + 6, none⟩ (.int .i64 (y.en + b))).setCell ⟨g, t * 10 + 7, none⟩ (.int .i64 (y.hd + b))).setCell ⟨g, t * 10 + 8, none⟩ (.int .i64 (y.mr + b)))) := by
        have hti := (List.getElem?_eq_some_iff.1 hp).1
        have q1 := hq.set (p' := ({ y with st := y.st + b }, kv)) hp 5 (by omega) (.int .i64 (y.st + b)) rfl rfl rfl
        have q2 := q1.set (p' := ({ y with st := y.st + b, en := y.en + b }, kv)) (List.getElem?_set_self hti) 6 (by omega) (.int .i64 (y.en + b)) rfl rfl rfl
        have q3 := q2.set (p' := ({ y with st := y.st + b, en := y.en + b, hd := y.hd + b }, kv)) (List.getElem?_set_self (by rw [List.length_set]; exact hti)) 7 (by omega) (.int .i64 (y.hd + b)) rfl rfl rfl
        have q4 := q3.set (p' := (shG b y, kv)) (List.getElem?_set_self (by rw [List.length_set, List.length_set]; exact hti)) 8 (by omega) (.int .i64 (y.mr + b)) rfl rfl rfl
        simp only [List.set_set, List.length_set] at q4
        rw [HQ.out.2.1] at q4
        refine ⟨P.set t (shG b y, kv), q4, by rw [List.length_set]; exact HQ.out.2.1, ?_, (((HQ.out.2.2.2.setCell (p := ⟨g, t * 10 + 5, none⟩) hgB _).setCell (p := ⟨g, t * 10 + 6, none⟩) hgB _).setCell (p := ⟨g, t * 10 + 7, none⟩) hgB _).setCell (p := ⟨g, t * 10 + 8, none⟩) hgB _⟩
        have hl : t < l.length := by rw [HLN.out]; exact hlt
        have e1 : l[t] = y := by rw [List.getElem?_eq_getElem hl] at hx; injection hx
        show (P.set t (shG b y, kv)).map Prod.fst = _
        rw [List.map_set, show P.map Prod.fst = glst P from rfl, HQ.out.2.2.1, List.set_append_right _ _ (by simp; omega)]
        simp only [List.length_map, List.length_take]
        rw [show t - min t l.length = 0 by omega, List.drop_eq_getElem_cons hl, List.set_cons_zero, List.take_succ_eq_append_getElem hl, List.map_append, e1]
        simp
      have w1 : IntKind.i64.wrap (y.st + b) = y.st + b := IntWalk.i64_in _ (by omega)
      clear hp hx hq cell
      go_wp2_with fail
      go_roundw
      case rel =>
        obtain ⟨P2, f1⟩ := HF.out
        exact ⟨t + 1, P2, by omega, by go_num, f1⟩
      case measure => simp [intOf]; omega
    · obtain rfl : t = n := by omega
      go_wp2_with fail
      go_ret
      exact ⟨A2, t, cap2, P, rfl, m1, m2, HQ.out.1, HQ.out.2.1, by rw [HQ.out.2.2.1, List.take_of_length_le (by rw [HLN.out]; exact Nat.le_refl _), List.drop_eq_nil_of_le (by rw [HLN.out]; exact Nat.le_refl _), List.append_nil], HQ.out.2.2.2⟩
theorem set_same {α : Type} {l : List α} {j : Nat} {x : α} (h : l[j]? = some x) : l.set j x = l := by
  apply List.ext_getElem?
  intro q
  by_cases e : j = q
  · subst e; rw [List.getElem?_set_self (List.getElem?_eq_some_iff.1 h).1, h]
  · rw [List.getElem?_set_ne e]
theorem mixK_set {f : Int → Int} {ks : List Int} {j : Nat} {k : Int} (h : ks[j]? = some k) : (mixK f ks j).set j (f k) = mixK f ks (j + 1) := by
  have hj := (List.getElem?_eq_some_iff.1 h).1
  unfold mixK
  rw [List.set_append_right _ _ (by simp; omega)]
  simp only [List.length_map, List.length_take]
  rw [show j - min j ks.length = 0 by omega, List.drop_eq_getElem_cons hj, List.set_cons_zero, List.take_succ_eq_append_getElem hj, List.map_append]
  have : ks[j] = k := by rw [List.getElem?_eq_getElem hj] at h; injection h
  simp [this]
theorem mixK_same {f : Int → Int} {ks : List Int} {j : Nat} {k : Int} (h : ks[j]? = some k) (hf : f k = k) : mixK f ks (j + 1) = mixK f ks j := by
  rw [← mixK_set h, hf, set_same (mixK_at h)]
def Gn.withK (x : Gn) (ks : List Int) : Gn := { x with kids := ks }
theorem gksC_kids {P : List GK} {i : Nat} {x : Gn} {v : Value} (ks : List Int) (hp : P[i]? = some (x, v)) : gksC (P.set i (x.withK ks, v)) = gksC P := by
  unfold gksC
  rw [List.flatMap_def, List.flatMap_def, List.map_set, show gkC (x.withK ks, v) = gkC (x, v) from rfl, set_same (by rw [List.getElem?_map, hp]; rfl)]
theorem GNds.setKid {B : Nat} {W : World} {v : Value} {P : List GK} (h : GNds B W v P) {i b c n : Nat} {x : Gn} (hp : P[i]? = some (x, .slice (some ⟨b, 0, none⟩) n c)) (hn : x.kids.length = n) {j : Nat} (k' : Int) :
    GNds B (W.setCell ⟨b, j, none⟩ (.int .i64 k')) v (P.set i (x.withK (x.kids.set j k'), .slice (some ⟨b, 0, none⟩) n c)) := by
  have hgs := grown_store W b j (.int .i64 k')
  have hob : (Value.slice (some ⟨b, 0, none⟩) n c).ownBlock = some b := rfl
  refine ⟨?_, fun q p hq => ?_, fun q r p y k hq hr hne hk => ?_, fun q p k hq hk => ?_⟩
  · rw [List.length_set, gksC_kids _ hp]
    exact own_kept h.row hgs (fun k e e2 => by injection e with e; subst e; exact h.off i _ _ hp hob e2)
  · rcases gset_look hp hq with ⟨rfl, rfl⟩ | ⟨hne, hq⟩
    · have h1 := h.kid _ _ hp
      rw [hn] at h1
      have h2 := (h1.stored j (.int .i64 k')).1
      show World.ownsRow _ B _ 1 _ (x.kids.set j k').length (ki (x.kids.set j k'))
      rw [List.length_set, hn, show ki (x.kids.set j k') = (ki x.kids).set j (.int .i64 k') by simp [ki, List.map_set]]
      exact h2
    · exact own_kept (h.kid q p hq) hgs (fun k e e2 => by injection e with e; subst e; exact h.apart q i p _ _ hq hp hne e2 hob)
  · rcases gset_look hp hq with ⟨rfl, rfl⟩ | ⟨h1, hq'⟩ <;> rcases gset_look hp hr with ⟨rfl, rfl⟩ | ⟨h2, hr'⟩
    · exact absurd rfl hne
    · exact h.apart _ _ _ _ k hp hr' hne (show (Value.slice (some ⟨b, 0, none⟩) n c).ownBlock = some k from hk)
    · exact fun e => h.apart _ _ _ (x, Value.slice (some ⟨b, 0, none⟩) n c) k hq' hp hne hk e
    · exact h.apart _ _ _ _ k hq' hr' hne hk
  · rcases gset_look hp hq with ⟨rfl, rfl⟩ | ⟨h1, hq⟩
    · exact h.off _ _ k hp hk
    · exact h.off _ _ k hq hk
/-- Of a place behind a tree so much more. -/
def rbK (e by_ k : Int) : Int := if e ≤ k then k + by_ else k
theorem GNds.keep {B : Nat} {W W' : World} {v : Value} {P : List GK} (h : GNds B W v P) {row : Option Nat} (hg : W.grownBy W' row) (hv : ∀ k, row = some k → v.ownBlock ≠ some k) (hk : ∀ (i : Nat) (p : GK) (k : Nat), P[i]? = some p → row = some k → p.2.ownBlock ≠ some k) : GNds B W' v P :=
  ⟨own_kept h.row hg hv, fun i p hp => own_kept (h.kid i p hp) hg (fun k hr => hk i p k hp hr), h.apart, h.off⟩
/-- A row's block is none of a list's. -/
def OffG (v va : Value) (P : List GK) : Prop := ∀ k, v.ownBlock = some k → va.ownBlock ≠ some k ∧ ∀ (i : Nat) (p : GK), P[i]? = some p → p.2.ownBlock ≠ some k
theorem OffG.keep {B : Nat} {W W' : World} {v va : Value} {P : List GK} (ho : OffG v va P) (h : GNds B W va P) (hg : W.grownBy W' v.ownBlock) : GNds B W' va P :=
  h.keep hg (fun k hk => (ho k hk).1) (fun i p k hp hk => (ho k hk).2 i p hp)
theorem OffG.grown {B : Nat} {W : World} {v v' va : Value} {P : List GK} (ho : OffG v va P) (h : GNds B W va P) (hv : v'.ownBlock = v.ownBlock ∨ v'.ownBlock = some W.heap.size) : OffG v' va P := by
  intro k hk
  rcases hv with e | e
  · rw [e] at hk; exact ho k hk
  · rw [hk] at e
    injection e with e
    subst e
    refine ⟨fun e => ?_, fun i p hp e => ?_⟩
    · have := own_lt h.row _ e; omega
    · have := own_lt (h.kid i p hp) _ e; omega
theorem gksC_take {P : List GK} {a : Nat} (ha : a ≤ P.length) : gksC (P.take a) = (gksC P).take (a * 10) := by
  have h1 : gksC P = gksC (P.take a) ++ gksC (P.drop a) := by rw [← gksC_app, List.take_append_drop]
  have h2 : (gksC (P.take a)).length = a * 10 := by rw [gksC_len, List.length_take]; omega
  have h3 := List.take_left' (l₂ := gksC (P.drop a)) h2
  rw [← h1] at h3
  exact h3.symm
theorem gksC_drop {P : List GK} {a : Nat} (ha : a ≤ P.length) : gksC (P.drop a) = (gksC P).drop (a * 10) := by
  have h1 : gksC P = gksC (P.take a) ++ gksC (P.drop a) := by rw [← gksC_app, List.take_append_drop]
  have h2 : (gksC (P.take a)).length = a * 10 := by rw [gksC_len, List.length_take]; omega
  have h3 := List.drop_left' (l₂ := gksC (P.drop a)) h2
  rw [← h1] at h3
  exact h3.symm
/-- A list's head and tail around another list, in a row of its own. -/
theorem GNds.join {B B2 : Nat} {U : World} {va vb v : Value} {P Q : List GK} (hP : GNds B U va P) (hQ : GNds B2 U vb Q) (kP : ∀ (i : Nat) (p : GK) (k : Nat), P[i]? = some p → p.2.ownBlock = some k → k < B2) (hB : B ≤ B2) {a e : Nat} (hae : a ≤ e) (haP : a ≤ P.length)
    (hv : U.ownsRow B 41 10 v (P.take a ++ (Q ++ P.drop e)).length (gksC (P.take a ++ (Q ++ P.drop e)))) (oP : OffG v va P) (oQ : OffG v vb Q) : GNds B U v (P.take a ++ (Q ++ P.drop e)) := by
  have hta : (P.take a).length = a := by rw [List.length_take]; omega
  have look : ∀ (i : Nat) (p : GK), (P.take a ++ (Q ++ P.drop e))[i]? = some p → (i < a ∧ P[i]? = some p) ∨ (a ≤ i ∧ i < a + Q.length ∧ Q[i - a]? = some p) ∨ (a + Q.length ≤ i ∧ P[e + (i - a - Q.length)]? = some p) := by
    intro i p hp
    by_cases q1 : i < a
    · rw [List.getElem?_append_left (by omega), List.getElem?_take, if_pos q1] at hp; exact .inl ⟨q1, hp⟩
    · rw [List.getElem?_append_right (by omega), hta] at hp
      by_cases q2 : i - a < Q.length
      · rw [List.getElem?_append_left q2] at hp; exact .inr (.inl ⟨by omega, by omega, hp⟩)
      · rw [List.getElem?_append_right (by omega), List.getElem?_drop] at hp; exact .inr (.inr ⟨by omega, hp⟩)
  have base2 : ∀ (i : Nat) (p : GK) (k : Nat), Q[i]? = some p → p.2.ownBlock = some k → B2 ≤ k := fun i p k hp hk => own_base (hQ.kid i p hp) k hk
  refine ⟨hv, fun i p hp => ?_, fun i j p q k hp hq hne hk hk2 => ?_, fun i p k hp hk hk2 => ?_⟩
  · rcases look i p hp with ⟨_, g⟩ | ⟨_, _, g⟩ | ⟨_, g⟩
    · exact hP.kid _ _ g
    · exact own_lower (hQ.kid _ _ g) hB
    · exact hP.kid _ _ g
  · rcases look i p hp with ⟨i1, g⟩ | ⟨i1, i2, g⟩ | ⟨i1, g⟩ <;> rcases look j q hq with ⟨j1, g'⟩ | ⟨j1, j2, g'⟩ | ⟨j1, g'⟩
    · exact hP.apart _ _ _ _ _ g g' hne hk hk2
    · have := kP _ _ _ g hk; have := base2 _ _ _ g' hk2; omega
    · exact hP.apart _ _ _ _ _ g g' (by omega) hk hk2
    · have := base2 _ _ _ g hk; have := kP _ _ _ g' hk2; omega
    · exact hQ.apart _ _ _ _ _ g g' (by omega) hk hk2
    · have := base2 _ _ _ g hk; have := kP _ _ _ g' hk2; omega
    · exact hP.apart _ _ _ _ _ g g' (by omega) hk hk2
    · have := kP _ _ _ g hk; have := base2 _ _ _ g' hk2; omega
    · exact hP.apart _ _ _ _ _ g g' (by omega) hk hk2
  · rcases look i p hp with ⟨_, g⟩ | ⟨_, _, g⟩ | ⟨_, g⟩
    · exact (oP k hk2).2 _ _ g hk
    · exact (oQ k hk2).2 _ _ g hk
    · exact (oP k hk2).2 _ _ g hk
/-- l[lo:] of a row. -/
theorem sliceR_l {g n c : Nat} (lo : Nat) (h1 : lo ≤ n) (hnc : n ≤ c) (hmx : c ≤ 9223372036854775807) : ∃ A',
    (∀ W, (Instr.slice 26 (.slice (some ⟨g, 0, none⟩) n c) (some (.int .i64 (lo : Int))) none none).run Try.prog W = .ok (.slice A' (n - lo) (c - lo)) W) ∧
    ∀ W cs, cs.length = n * 10 → RdC W (some ⟨g, 0, none⟩) cs → RdC W A' (cs.drop (lo * 10)) := by
  obtain ⟨i, hi', hz, hs1, _⟩ := info_parts node_info
  have hel : Try.prog.elem 26 = 41 := by kernel_rfl
  have hun : Try.prog.underlying 26 = some (.slice (Try.prog.elem 26)) := by rw [hel]; exact Try.underlying26
  have hrun : ∀ W, (Instr.slice 26 (.slice (some ⟨g, 0, none⟩) n c) (some (.int .i64 (lo : Int))) none none).run Try.prog W = .ok (sliced (some ⟨g, 0, none⟩) lo n c 10) W := by
    intro W
    rw [run_slice_l W 26 _ n c hun .i64 _ (by omega) (by omega), hel]
    simp [sizeOf, typeInfo, hi', hs1, sliced]
  by_cases h : c = lo
  · refine ⟨some ⟨g, 0, none⟩, fun W => by rw [hrun W]; simp [sliced, h], fun W cs hcs hr => ?_⟩
    rw [List.drop_of_length_le (by omega)]
    exact RdC.nil _ _
  · refine ⟨some ((⟨g, 0, none⟩ : Addr).add (lo * 10)), fun W => by rw [hrun W]; simp [sliced, h], fun W cs hcs hr => ?_⟩
    rw [add_plain]
    exact hr.drop (lo * 10)
theorem rb_ar {l : List Gn} {E : Nat → Nat} (hE : GE l E) {a : Nat} (ha : a < l.length) (b : Int) {i : Nat} {x : Gn} (hx : l[i]? = some x) (hi : i < a ∨ E a ≤ i) : x.mapK (rbK (E a : Int) b) = x.mapK (arK (a : Int) b) := by
  unfold Gn.mapK
  congr 1
  refine List.map_congr_left fun k hk => ?_
  have h0 := hE.pos x (List.mem_of_getElem? hx) k hk
  have h1 := (hE.lt ha).1
  have h2 : k.toNat ≤ a ∨ E a ≤ k.toNat := by
    rcases hi with hi | hi
    · exact hE.apart hx hi ha hk
    · obtain ⟨j, hj⟩ := List.mem_iff_getElem?.1 hk
      have := (hE.kid hx hj).2.1
      omega
  unfold rbK arK
  by_cases q : (E a : Int) ≤ k
  · rw [if_pos q, if_neg (by omega)]
  · rw [if_neg q, if_pos (by omega)]
theorem rb_graft {l m : List Gn} {E : Nat → Nat} (hE : GE l E) {a : Nat} (ha : a < l.length) {b : Int} (hb : b = (m.length : Int) - ((E a : Int) - (a : Int))) {X : List Gn} (hX : X = l.map (Gn.mapK (rbK (E a : Int) b))) : X.take a ++ (m.map (Gn.mapK (· + (a : Int))) ++ X.drop (E a)) = graftF l a m := by
  rw [hE.behind' ha]
  unfold grafted
  rw [← hb, hX]
  have h1 : (l.map (Gn.mapK (rbK (E a : Int) b))).take a = (l.take a).map (Gn.mapK (arK (a : Int) b)) := by
    rw [← List.map_take]
    refine List.map_congr_left fun x hx => ?_
    obtain ⟨i, hi⟩ := List.mem_iff_getElem?.1 hx
    rw [List.getElem?_take] at hi
    split at hi
    · rename_i hia
      exact rb_ar hE ha b hi (.inl hia)
    · cases hi
  have h2 : (l.map (Gn.mapK (rbK (E a : Int) b))).drop (E a) = (l.drop (E a)).map (Gn.mapK (arK (a : Int) b)) := by
    rw [← List.map_drop]
    refine List.map_congr_left fun x hx => ?_
    obtain ⟨i, hi⟩ := List.mem_iff_getElem?.1 hx
    rw [List.getElem?_drop] at hi
    exact rb_ar hE ha b hi (.inr (by omega))
  rw [h1, h2]
theorem withK_self (x : Gn) : x.withK x.kids = x := rfl
theorem glst_at2 {P : List GK} {i : Nat} {x : Gn} (h : (glst P)[i]? = some x) : ∃ v, P[i]? = some (x, v) := by
  unfold glst at h
  rw [List.getElem?_map, Option.map_eq_some_iff] at h
  obtain ⟨⟨y, v⟩, hp, rfl⟩ := h
  exact ⟨v, hp⟩
theorem gappend_run (a : Act) (o : Oper) (x y : Operand) (t u : TypeId) (ho : o.op = .call { callee := .builtin .append, args := #[x, y], argTypes := #[t, u] }) (v1 v2 v' : Value) (W W' : World) (hrun : (Builtin.append_ #[t, u] o.type #[v1, v2]).run Try.prog W = .ok v' W') (hx : a.eval x = v1) (hy : a.eval y = v2) :
    (execOp a.eval o).run Try.prog W = .ok (.value v') W' := by
  unfold execOp
  simp only [ho, resolve, invoke, builtin, Sem.run_bind, Sem.run_pure, Result.andThen_ok, List.map_toArray, List.map_cons, List.map_nil, hx, hy, hrun]
theorem gadd_exec (o : Oper) (x y : Operand) (ho : o.op = .binOp .add 3 x y 3) (a : Act) (p q r : Int) (hx : a.eval x = .int .i64 p) (hy : a.eval y = .int .i64 q) (hw : IntKind.i64.wrap (p + q) = r) (V : World) : (execOp a.eval o).run Try.prog V = .ok (.value (.int .i64 r)) V := by
  unfold execOp
  simp only [ho, hx, hy]
  simp [go_sem, hw]
theorem rmove_run (a : Act) (o : Oper) (x y : Operand) (T : Array TypeId) (ho : o.op = .call { callee := .value (.func 25), args := #[x, y], argTypes := T }) (vx vy : Value) (hx : a.eval x = vx) (hy : a.eval y = vy) (w : World) :
    (execOp a.eval o).run Try.prog w = .ok (.enter 25 #[vx, vy]) w := by
  have hn : (Try.f25.name == "runtime.NumGoroutine") = false := by kernel_rfl
  have hb : Try.f25.body.isNone = false := by kernel_rfl
  have hf : a.eval (.func 25) = .func (.func 25) #[] #[] := rfl
  have hn' : ¬ (Try.f25.name = "runtime.NumGoroutine") := by simpa using hn
  have hb' : ¬ (Try.f25.body = none) := by
    intro h
    rw [h] at hb
    cases hb
  unfold execOp
  simp [ho, resolve, Deferred.ofValue, hf, hx, hy, invoke, callFunc, run_program, Try.func25]
  rw [if_neg hn', if_neg hb']
set_option maxHeartbeats 16000000 in
theorem rgraft_at {W : World} {g1 n1 c1 n2 c2 a : Nat} {A2 : Option Addr} {l m : List Gn} {E : Nat → Nat} (hL : GL W (some ⟨g1, 0, none⟩) n1 c1 l) (hM : GL W A2 n2 c2 m) (hE : GE l E) (hSm : Small m) (hn1 : n1 ≤ 1000000) (hn2 : n2 ≤ 1000000) (ha : a < n1) :
    Calls Try.prog 22 #[.slice (some ⟨g1, 0, none⟩) n1 c1, .int .i64 (a : Int), .slice A2 n2 c2] W (NewG W (graftF l a m)) := by
  have hal : a < l.length := by rw [hL.len]; exact ha
  have hS := hE.small (by rw [hL.len]; exact hn1)
  have hlt := hE.lt hal
  rw [hL.len] at hlt
  have CS := Lib.hid (rsize_at hL hE hn1 _ a ha (Nat.le_refl _))
  have CV := Lib.hid (gmove_at (d := 0) hL hS hn1 (by omega) (by omega))
  rw [map_zero] at CV
  have HLN := Lib.hid hL.len
  have HML := Lib.hid hM.len
  have HS := Lib.hid hS
  have HE := Lib.hid hE
  have HM := Lib.hid hM
  have HSM := Lib.hid hSm
  have hml := hM.le
  have hmm := hM.max
  obtain ⟨e, he⟩ : ∃ z, E a = z := ⟨_, rfl⟩
  obtain ⟨D, hD⟩ : ∃ z, e - a = z := ⟨_, rfl⟩
  obtain ⟨b, hb⟩ : ∃ z : Int, (n2 : Int) - (D : Int) = z := ⟨_, rfl⟩
  rw [he, hD] at CS
  rw [he] at hlt
  have hbb : -1000000 ≤ b ∧ b ≤ 1000000 := by omega
  have w1 : IntKind.i64.wrap ((n2 : Int) - (D : Int)) = b := by rw [IntWalk.i64_in _ (by omega)]; exact hb
  have w2 : IntKind.i64.wrap ((a : Int) + (D : Int)) = (e : Int) := by rw [IntWalk.i64_in _ (by omega)]; omega
  have HDD := Lib.hid (And.intro he (And.intro hD hb))
  clear hL hM hE hS hSm he hb hal
  go_enter Try.func22, Try.ntmps22
  go_wp2_with fail
  refine CS.out.mono ?_
  clear CS
  rintro e0 w0 ⟨rfl, rfl⟩
  go_wp2_with fail
  refine CV.out.mono ?_
  clear CV
  rintro e0 V0 ⟨A, n', cap, P0, rfl, m1, m2, q1, q2, q3, q4⟩
  obtain rfl : n1 = n' := by rw [← q2, ← HLN.out, ← q3]; simp [glst]
  obtain ⟨ga, rfl, hga, _⟩ := row_addr (q2 ▸ q1.row) (by omega)
  have HG := Lib.hid (And.intro q1 (And.intro q2 (And.intro q3 q4)))
  clear q1 q2 q3 q4
  go_wp2_with fail
  go_loopw [23] (fun i V => ∃ (t : Nat) (P : List GK), t ≤ n1 ∧ i = .int .i64 (t : Int) ∧ Hid (GNds W.heap.size V (.slice (some ⟨ga, 0, none⟩) n1 cap) P ∧ P.length = n1 ∧ glst P = (l.take t).map (Gn.mapK (rbK (e : Int) b)) ++ l.drop t ∧ Below W.heap.size W V)) (fun i _ => n1 - (intOf i).toNat)
  case atStart => exact ⟨0, P0, Nat.zero_le _, rfl, HG.out.1, HG.out.2.1, by simp [HG.out.2.2.1], HG.out.2.2.2⟩
  case round =>
    obtain ⟨t, P, ht, rfl, HQ⟩ := hrel
    obtain ⟨V, hV⟩ : ∃ z, z = wr := ⟨_, rfl⟩
    subst hV
    by_cases hlt2 : t < n1
    · have dt : (t : Int) < (n1 : Int) := by omega
      obtain ⟨x, hx⟩ : ∃ x, l[t]? = some x := ⟨l[t]'(by rw [HLN.out]; omega), List.getElem?_eq_getElem _⟩
      obtain ⟨kv, hp⟩ : ∃ kv, P[t]? = some (x, kv) := by
        refine glst_at2 ?_
        rw [HQ.out.2.2.1, List.getElem?_append_right (by simp; omega), List.getElem?_drop]
        simp only [List.length_map, List.length_take]
        rw [show t + (t - min t l.length) = t by rw [HLN.out]; omega, hx]
      obtain ⟨s1, s2⟩ := HS.out x (List.mem_of_getElem? hx)
      have hkid : V.ownsRow W.heap.size 3 1 kv x.kids.length (ki x.kids) := HQ.out.1.kid t _ hp
      obtain ⟨K2, c3, rfl, n3, n4, _⟩ := own_form hkid
      clear hkid
      obtain ⟨kl, hkl⟩ : ∃ z, x.kids.length = z := ⟨_, rfl⟩
      have row9 : ∀ (V2 : World) (y : Gn), GNds W.heap.size V2 (.slice (some ⟨ga, 0, none⟩) n1 cap) (P.set t (y, .slice K2 x.kids.length c3)) → V2.cell? ⟨ga, t * 10 + 9, none⟩ = some (.slice K2 kl c3) := fun V2 y h => by
        have hr := h.row
        rw [List.length_set, HQ.out.2.1] at hr
        rw [hr.cellAt _ (by omega), gksC_at _ t 9 _ (List.getElem?_set_self (by rw [HQ.out.2.1]; exact hlt2)) (by omega), hkl]
        rfl
      have hP0 : P.set t (x.withK (mixK (rbK (e : Int) b) x.kids 0), .slice K2 x.kids.length c3) = P := by rw [mixK_zero, withK_self, set_same hp]
      have y9 := row9 V x (by rw [set_same hp]; exact HQ.out.1)
      rw [hkl] at s1
      have HX := Lib.hid (And.intro hx (And.intro hp (And.intro hkl (And.intro s2 hP0))))
      have HR9 := Lib.hid row9
      clear hx hp s2 row9 hP0
      go_wp2_with fail
      clear y9
      go_loopw [32] (fun i V2 => ∃ j : Nat, j ≤ kl ∧ i = .int .i64 (j : Int) ∧ Hid (GNds W.heap.size V2 (.slice (some ⟨ga, 0, none⟩) n1 cap) (P.set t (x.withK (mixK (rbK (e : Int) b) x.kids j), .slice K2 x.kids.length c3)) ∧ Below W.heap.size W V2)) (fun i _ => kl - (intOf i).toNat)
      case atStart => exact ⟨0, Nat.zero_le _, rfl, by rw [HX.out.2.2.2.2]; exact HQ.out.1, HQ.out.2.2.2⟩
      case round =>
        obtain ⟨j, hj, rfl, HJ⟩ := hrel
        obtain ⟨V2, hV2⟩ : ∃ z, z = wr := ⟨_, rfl⟩
        subst hV2
        by_cases hjl : j < kl
        · have dj : (j : Int) < (kl : Int) := by omega
          obtain ⟨k, hk⟩ : ∃ z, x.kids[j]? = some z := ⟨x.kids[j]'(by omega), List.getElem?_eq_getElem _⟩
          obtain ⟨b1, b2⟩ := HX.out.2.2.2.1 k (List.mem_of_getElem? hk)
          have y9 := HR9.out V2 _ HJ.out.1
          have hsl : (P.set t (x.withK (mixK (rbK (e : Int) b) x.kids j), Value.slice K2 x.kids.length c3))[t]? = some (x.withK (mixK (rbK (e : Int) b) x.kids j), .slice K2 x.kids.length c3) := List.getElem?_set_self (by rw [HQ.out.2.1]; exact hlt2)
          have hkr := HJ.out.1.kid t _ hsl
          rw [show (x.withK (mixK (rbK (e : Int) b) x.kids j)).kids.length = kl by show (mixK _ _ _).length = kl; rw [mixK_len, hkl]] at hkr
          simp only [hkl] at hkr hsl
          obtain ⟨kb, rfl, hkb, _⟩ := row_addr hkr (by omega)
          have ck : V2.cell? ⟨kb, j, none⟩ = some (.int .i64 k) := by rw [hkr.cellAt _ (by omega)]; exact ki_at (mixK_at hk)
          have fz := hkr.frozenAt j
          by_cases hek : (e : Int) ≤ k
          · have hf : rbK (e : Int) b k = k + b := by unfold rbK; rw [if_pos hek]
            have hw : IntKind.i64.wrap (k + b) = k + b := IntWalk.i64_in _ (by omega)
            have HN : Hid (GNds W.heap.size (V2.setCell ⟨kb, j, none⟩ (.int .i64 (k + b))) (.slice (some ⟨ga, 0, none⟩) n1 cap) (P.set t (x.withK (mixK (rbK (e : Int) b) x.kids (j + 1)), .slice (some ⟨kb, 0, none⟩) x.kids.length c3)) ∧ Below W.heap.size W (V2.setCell ⟨kb, j, none⟩ (.int .i64 (k + b)))) := by
              refine ⟨?_, HJ.out.2.setCell (p := ⟨kb, j, none⟩) hkb _⟩
              have h1 := HJ.out.1
              simp only [hkl] at h1
              have hs := h1.setKid hsl (by show (mixK _ _ _).length = kl; rw [mixK_len, hkl]) (j := j) (k + b)
              rw [List.set_set] at hs
              have e1 : (x.withK (mixK (rbK (e : Int) b) x.kids j)).withK ((x.withK (mixK (rbK (e : Int) b) x.kids j)).kids.set j (k + b)) = x.withK (mixK (rbK (e : Int) b) x.kids (j + 1)) := by
                show x.withK ((mixK _ _ _).set j (k + b)) = _
                rw [← hf, mixK_set hk]
              rw [e1] at hs
              simp only [hkl]
              exact hs
            clear hk hsl hkr hf
            go_wp2_with fail
            first
            | exact ⟨⟨j + 1, by omega, by go_num, HN.out⟩, by simp [intOf]; omega⟩
            | (go_roundw
               case rel => exact ⟨j + 1, by omega, by go_num, HN.out⟩
               case measure => simp [intOf]; omega)
          · have hf : rbK (e : Int) b k = k := by unfold rbK; rw [if_neg hek]
            have HN : Hid (GNds W.heap.size V2 (.slice (some ⟨ga, 0, none⟩) n1 cap) (P.set t (x.withK (mixK (rbK (e : Int) b) x.kids (j + 1)), .slice (some ⟨kb, 0, none⟩) x.kids.length c3)) ∧ Below W.heap.size W V2) := by
              rw [mixK_same hk hf]
              exact HJ.out
            clear hk hsl hkr hf
            go_wp2_with fail
            first
            | exact ⟨⟨j + 1, by omega, by go_num, HN.out⟩, by simp [intOf]; omega⟩
            | (go_roundw
               case rel => exact ⟨j + 1, by omega, by go_num, HN.out⟩
               case measure => simp [intOf]; omega)
        · obtain rfl : j = kl := by omega
          have HF : Hid (∃ P2 : List GK, GNds W.heap.size V2 (.slice (some ⟨ga, 0, none⟩) n1 cap) P2 ∧ P2.length = n1 ∧ glst P2 = (l.take (t + 1)).map (Gn.mapK (rbK (e : Int) b)) ++ l.drop (t + 1) ∧ Below W.heap.size W V2) := by
            have h1 := HJ.out.1
            have hall : mixK (rbK (e : Int) b) x.kids j = x.kids.map (rbK (e : Int) b) := by rw [← hkl]; exact mixK_all _ _
            rw [hall] at h1
            refine ⟨_, h1, by rw [List.length_set]; exact HQ.out.2.1, ?_, HJ.out.2⟩
            have hl : t < l.length := by rw [HLN.out]; exact hlt2
            have e1 : l[t] = x := by have hx := HX.out.1; rw [List.getElem?_eq_getElem hl] at hx; injection hx
            show (P.set t (x.mapK (rbK (e : Int) b), _)).map Prod.fst = _
            rw [List.map_set, show P.map Prod.fst = glst P from rfl, HQ.out.2.2.1, List.set_append_right _ _ (by simp; omega)]
            simp only [List.length_map, List.length_take]
            rw [show t - min t l.length = 0 by omega, List.drop_eq_getElem_cons hl, List.set_cons_zero, List.take_succ_eq_append_getElem hl, List.map_append, e1]
            simp
          go_wp2_with fail
          obtain ⟨P2, f1⟩ := HF.out
          first
          | exact ⟨⟨t + 1, P2, by omega, by go_num, f1⟩, by simp [intOf]; omega⟩
          | (repeat apply Exists.intro
             exact ⟨⟨t + 1, P2, by omega, by go_num, f1⟩, by simp [intOf]; omega⟩)
    · obtain rfl : t = n1 := by omega
      go_wp2_with fail
      refine gen_act fun a0 hA => ?_
      have hsz : a0.tmps.size = 74 := by rw [hA]; rfl
      have e1 : a0.eval (.tmp 1) = .int .i64 (a : Int) := by rw [hA]; rfl
      have e2 : a0.eval (.tmp 2) = .slice A2 n2 c2 := by rw [hA]; rfl
      have e7 : a0.eval (.tmp 7) = .int .i64 (D : Int) := by rw [hA]; rfl
      have e9 : a0.eval (.tmp 9) = .slice (some ⟨ga, 0, none⟩) t cap := by rw [hA]; rfl
      obtain ⟨U0, hU0⟩ : ∃ U, V.drew = U := ⟨_, rfl⟩
      have hVU : Below V.heap.size V U0 := by rw [← hU0]; exact (Below.refl _ _).drew
      have hb0 : Below W.heap.size W U0 := below_step HQ.out.2.2.2 hVU
      have hP0 : GNds W.heap.size U0 (.slice (some ⟨ga, 0, none⟩) t cap) P := HQ.out.1.below hVU
      have hPl := HQ.out.2.1
      have hX : glst P = l.map (Gn.mapK (rbK (e : Int) b)) := by
        rw [HQ.out.2.2.1, List.take_of_length_le (by rw [HLN.out]; exact Nat.le_refl _), List.drop_eq_nil_of_le (by rw [HLN.out]; exact Nat.le_refl _), List.append_nil]
      have hrow0 := hP0.row
      rw [hPl] at hrow0
      have hrd0 : RdC U0 (some ⟨ga, 0, none⟩) (gksC P) := RdC.own hrow0
      have hPl10 : (gksC P).length = t * 10 := by rw [gksC_len, hPl]
      obtain ⟨A', hsl, hcut⟩ := sliceR_l (g := ga) (n := t) (c := cap) e (by omega) m1 m2
      have hsh := (sliceN_h (hP0.gl hPl) a (by omega)).1
      obtain ⟨v1, U1, hrun1, hown1, hg1, hv1⟩ := run_append_rows Try.underlying26 node_info rfl (by omega) (by omega) U0 U0.heap.size (.slice none 0 0) 0 [] (own_nil _ _ _ _) (Nat.le_refl _) (some ⟨ga, 0, none⟩) a cap (gksC (P.take a)) (by rw [gksC_len, List.length_take]; omega) (by rw [gksC_take (by omega)]; exact hrd0.take _) (fun u hu => gks_one hP0 u (by rw [gksC_take (by omega)] at hu; exact List.mem_of_mem_take hu)) (by omega)
      rw [Nat.zero_add, List.nil_append] at hown1
      have hb1 : Below U0.heap.size U0 U1 := (Below.refl _ _).grown hg1 (Nat.le_refl _) (fun k hk => by cases hk)
      have hbW1 := below_step hb0 hb1
      have hP1 := hP0.below hb1
      have CM := Lib.hid (gmove_at (d := (a : Int)) ((HM.out.below hbW1)) HSM.out hn2 (by omega) (by omega))
      have oP1 : OffG v1 (.slice (some ⟨ga, 0, none⟩) t cap) P := by
        intro k hk
        rcases hv1 with q | q
        · rw [q] at hk; cases hk
        · rw [q] at hk
          injection hk with hk
          subst hk
          refine ⟨fun q => ?_, fun i p hp q => ?_⟩
          · have := own_lt hP0.row _ q; omega
          · have := own_lt (hP0.kid i p hp) _ q; omega
      have H1 := Lib.hid (And.intro hown1 (And.intro hbW1 (And.intro hP1 oP1)))
      have H0 := Lib.hid (And.intro hX (And.intro hPl (And.intro hPl10 hcut)))
      have HR1 := Lib.hid hrun1
      have HB01 := Lib.hid (And.intro hb1 (And.intro hb0 hP0))
      clear hown1 hbW1 hP1 oP1 hv1 hg1 hb1 hrun1 hrd0 hrow0 hP0 hX hPl hPl10 hcut hVU hb0
      refine region_gate (fun _ => True) 14 (by kernel_rfl) ?_
      change wpGate _ _ _ _ _ _ 15 _ _ V.drew
      rw [hU0]
      clear hU0
      refine gate_take0 (i := 0) (v := (.slice (some ⟨ga, 0, none⟩) t cap)) rfl (by rfl) (by kernel_rfl) (by kernel_rfl) (by kernel_rfl) (fun _ _ _ h => h) rfl (fun U => kmove_exec _ (.tmp 9) rfl _ _ (by simp [evp_same, evp_ne, szp, hsz, e1, e2, e7, e9]) U) trivial ?_
      refine gate_take0 (i := 1) (v := (.int .i64 (a : Int))) rfl (by rfl) (by kernel_rfl) (by kernel_rfl) (by kernel_rfl) (fun _ _ _ h => h) rfl (fun U => kmove_exec _ (.tmp 1) rfl _ _ (by simp [evp_same, evp_ne, szp, hsz, e1, e2, e7, e9]) U) trivial ?_
      refine gate_take0 (i := 2) (v := (.slice (some ⟨ga, 0, none⟩) a cap)) rfl (by rfl) (by kernel_rfl) (by kernel_rfl) (by kernel_rfl) (fun _ _ _ h => h) rfl (fun U => slh_exec _ (.tmp 60) (.tmp 61) rfl _ _ _ _ (by simp [evp_same, evp_ne, szp, hsz, e1, e2, e7, e9]) (by simp [evp_same, evp_ne, szp, hsz, e1, e2, e7, e9]) U (hsh U)) trivial ?_
      refine gate_take0 (i := 4) (v := (.slice A2 n2 c2)) rfl (by rfl) (by kernel_rfl) (by kernel_rfl) (by kernel_rfl) (fun _ _ _ h => h) rfl (fun U => kmove_exec _ (.tmp 2) rfl _ _ (by simp [evp_same, evp_ne, szp, hsz, e1, e2, e7, e9]) U) trivial ?_
      refine gate_take0 (i := 5) (v := (.int .i64 (a : Int))) rfl (by rfl) (by kernel_rfl) (by kernel_rfl) (by kernel_rfl) (fun _ _ _ h => h) rfl (fun U => kmove_exec _ (.tmp 1) rfl _ _ (by simp [evp_same, evp_ne, szp, hsz, e1, e2, e7, e9]) U) trivial ?_
      refine gate_take0 (i := 8) (v := (.slice (some ⟨ga, 0, none⟩) t cap)) rfl (by rfl) (by kernel_rfl) (by kernel_rfl) (by kernel_rfl) (fun _ _ _ h => h) rfl (fun U => kmove_exec _ (.tmp 9) rfl _ _ (by simp [evp_same, evp_ne, szp, hsz, e1, e2, e7, e9]) U) trivial ?_
      refine gate_take0 (i := 9) (v := (.int .i64 (a : Int))) rfl (by rfl) (by kernel_rfl) (by kernel_rfl) (by kernel_rfl) (fun _ _ _ h => h) rfl (fun U => kmove_exec _ (.tmp 1) rfl _ _ (by simp [evp_same, evp_ne, szp, hsz, e1, e2, e7, e9]) U) trivial ?_
      refine gate_take0 (i := 10) (v := (.int .i64 (D : Int))) rfl (by rfl) (by kernel_rfl) (by kernel_rfl) (by kernel_rfl) (fun _ _ _ h => h) rfl (fun U => kmove_exec _ (.tmp 7) rfl _ _ (by simp [evp_same, evp_ne, szp, hsz, e1, e2, e7, e9]) U) trivial ?_
      refine gate_take0 (i := 11) (v := (.int .i64 (e : Int))) rfl (by rfl) (by kernel_rfl) (by kernel_rfl) (by kernel_rfl) (fun _ _ _ h => h) rfl (fun U => gadd_exec _ (.tmp 69) (.tmp 70) rfl _ _ _ _ (by simp [evp_same, evp_ne, szp, hsz, e1, e2, e7, e9]) (by simp [evp_same, evp_ne, szp, hsz, e1, e2, e7, e9]) w2 U) trivial ?_
      refine gate_take0 (i := 12) (v := (.slice A' (t - e) (cap - e))) rfl (by rfl) (by kernel_rfl) (by kernel_rfl) (by kernel_rfl) (fun _ _ _ h => h) rfl (fun U => sll_exec _ (.tmp 68) (.tmp 71) rfl _ _ _ _ (by simp [evp_same, evp_ne, szp, hsz, e1, e2, e7, e9]) (by simp [evp_same, evp_ne, szp, hsz, e1, e2, e7, e9]) U (hsl U)) trivial ?_
      refine gate_one (i := 3) (by kernel_rfl) ?_
      refine wpOp_value (v := v1) (w' := U1) rfl rfl (gappend_run _ _ (.const (.slice none 0 0)) (.tmp 62) _ _ rfl _ _ _ _ _ HR1.out rfl (by simp [evp_same, evp_ne, szp, hsz, e1, e2, e7, e9])) ⟨fun _ => trivial, ?_⟩
      refine gate_one (i := 6) (by kernel_rfl) ?_
      refine wpOp_callX rfl rfl (rmove_run _ _ (.tmp 64) (.tmp 65) _ rfl _ _ (by simp [evp_same, evp_ne, szp, hsz, e1, e2, e7, e9]) (by simp [evp_same, evp_ne, szp, hsz, e1, e2, e7, e9]) _) CM.out ?_
      clear CM
      rintro e0 U2 ⟨A3, n3, cap3, Q, rfl, p1, p2, hQ, hQl, hQe, hb2⟩
      refine ⟨_, rfl, fun _ => trivial, ?_⟩
      have hQlen : Q.length = n2 := by
        have : (glst Q).length = m.length := by rw [hQe, List.length_map]
        rw [HML.out] at this
        rw [← this]; simp [glst]
      have hn3 : n3 = n2 := by rw [← hQl, hQlen]
      have hown2 := own_below H1.out.1 hb2
      have oQ1 : OffG v1 (.slice A3 n3 cap3) Q := by
        intro k hk
        have h1 := own_lt H1.out.1 k hk
        exact ⟨fun q => by have := own_base hQ.row k q; omega, fun i p hp q => by have := own_base (hQ.kid i p hp) k q; omega⟩
      have hP2 := H1.out.2.2.1.below hb2
      have hrq : RdC U2 A3 (gksC Q) := by
        have := hQ.row
        rw [hQl] at this
        exact RdC.own this
      obtain ⟨v2, U3, hrun3, hown3, hg3, hv3⟩ := run_append_rows Try.underlying26 node_info rfl (by omega) (by omega) U2 U0.heap.size v1 a (gksC (P.take a)) hown2 (by have := HB01.out.1.size; have := hb2.size; omega) A3 n3 cap3 (gksC Q) (by rw [gksC_len, hQl]) hrq (gks_one hQ) (by omega)
      have hP3 := H1.out.2.2.2.keep hP2 hg3
      have hQ3 := oQ1.keep hQ hg3
      have oP3 := H1.out.2.2.2.grown hP2 hv3
      have oQ3 := oQ1.grown hQ hv3
      have hbW2 := below_step H1.out.2.1 hb2
      have hW0 : W.heap.size ≤ U0.heap.size := HB01.out.2.1.size
      have hbW3 : Below W.heap.size W U3 := hbW2.grown hg3 hbW2.size (fun k hk => by have := own_base hown2 k hk; omega)
      have hrow3 := hP3.row
      rw [H0.out.2.1] at hrow3
      have hrd3 := H0.out.2.2.2 U3 _ H0.out.2.2.1 (RdC.own hrow3)
      rw [← gksC_drop (by rw [H0.out.2.1]; omega)] at hrd3
      have hU02 : U0.heap.size ≤ U3.heap.size := by have := HB01.out.1.size; have := hb2.size; have := hg3.size; omega
      obtain ⟨v3, U4, hrun4, hown4, hg4, hv4⟩ := run_append_rows Try.underlying26 node_info rfl (by omega) (by omega) U3 U0.heap.size v2 (a + n3) (gksC (P.take a) ++ gksC Q) hown3 hU02 A' (t - e) (cap - e) (gksC (P.drop e)) (by rw [gksC_len, List.length_drop, H0.out.2.1]) hrd3 (fun u hu => gks_one hP3 u (by rw [gksC_drop (by rw [H0.out.2.1]; omega)] at hu; exact List.mem_of_mem_drop hu)) (by omega)
      have hP4 := oP3.keep hP3 hg4
      have hQ4 := oQ3.keep hQ3 hg4
      have oP4 := oP3.grown hP3 hv4
      have oQ4 := oQ3.grown hQ3 hv4
      have hbW4 : Below W.heap.size W U4 := hbW3.grown hg4 hbW3.size (fun k hk => by have := own_base hown3 k hk; omega)
      have hlen : (P.take a ++ (Q ++ P.drop e)).length = a + n3 + (t - e) := by
        simp only [List.length_append, List.length_take, List.length_drop, hQl, H0.out.2.1]
        omega
      rw [List.append_assoc, ← gksC_app, ← gksC_app, ← hlen] at hown4
      have hfin := GNds.join hP4 hQ4 (fun i p k hp hk => own_lt (H1.out.2.2.1.kid i p hp) k hk) (by have := H1.out.2.1.size; omega) (by omega) (by rw [H0.out.2.1]; omega) (own_lower hown4 hW0) oP4 oQ4
      have hgl : glst (P.take a ++ (Q ++ P.drop e)) = graftF l a m := by
        have h1 := rb_graft (m := m) HE.out (a := a) (by rw [HLN.out]; exact ha) (b := b) (by rw [HDD.out.1, HML.out]; have := HDD.out.2.1; have := HDD.out.2.2; omega) (X := glst P) (by rw [HDD.out.1]; exact H0.out.1)
        rw [← h1, HDD.out.1, ← hQe]
        simp [glst, List.map_take, List.map_drop]
      obtain ⟨A5, c5, rfl, z1, z2, _⟩ := own_form hown4
      have HF := Lib.hid (And.intro hfin (And.intro hgl hbW4))
      have HR3 := Lib.hid hrun3
      have HR4 := Lib.hid hrun4
      obtain ⟨L5, hL5⟩ : ∃ z, (P.take a ++ (Q ++ P.drop e)).length = z := ⟨_, rfl⟩
      rw [hL5] at z1 HR4 HF
      have HL5 := Lib.hid hL5
      clear hfin hgl hbW4 hown4 hrun4 hg4 hv4 hP4 hQ4 oP4 oQ4 hrd3 hU02 hrow3 hbW3 hW0 hbW2 oQ3 oP3 hQ3 hP3 hrun3 hown3 hg3 hv3 hrq hP2 oQ1 hown2 hQlen hQ hQl hQe hb2 hlen hL5
      refine gate_one (i := 7) (by kernel_rfl) ?_
      refine wpOp_value (v := v2) (w' := U3) rfl rfl (gappend_run _ _ (.tmp 63) (.tmp 66) _ _ rfl _ _ _ _ _ HR3.out (by simp [evp_same, evp_ne, szp, hsz, e1, e2, e7, e9]) (by simp [evp_same, evp_ne, szp, hsz, e1, e2, e7, e9])) ⟨fun _ => trivial, ?_⟩
      refine gate_one (i := 13) (by kernel_rfl) ?_
      refine wpOp_value (w' := U4) rfl rfl (gappend_run _ _ (.tmp 67) (.tmp 72) _ _ rfl _ _ _ _ _ HR4.out (by simp [evp_same, evp_ne, szp, hsz, e1, e2, e7, e9]) (by simp [evp_same, evp_ne, szp, hsz, e1, e2, e7, e9])) ⟨fun _ => trivial, ?_⟩
      refine gate_one (i := 14) (by kernel_rfl) ?_
      refine wpOp_value (w' := U4) (v := .slice A5 L5 c5) rfl rfl (assign_exec _ (.tmp 73) rfl _ _ (by simp [evp_same, evp_ne, szp, hsz, e1, e2, e7, e9]) U4) ⟨fun _ => trivial, ?_⟩
      refine kgate_gen fun a3 hA0 => ?_
      have hA3 : a3 = (((((((((((((((a0.put (some 60) (.slice (some ⟨ga, 0, none⟩) t cap)).put (some 61) (.int .i64 (a : Int))).put (some 62) (.slice (some ⟨ga, 0, none⟩) a cap)).put (some 64) (.slice A2 n2 c2)).put (some 65) (.int .i64 (a : Int))).put (some 68) (.slice (some ⟨ga, 0, none⟩) t cap)).put (some 69) (.int .i64 (a : Int))).put (some 70) (.int .i64 (D : Int))).put (some 71) (.int .i64 (e : Int))).put (some 72) (.slice A' (t - e) (cap - e))).put (some 63) v1).put (some 66) (.slice A3 n3 cap3)).put (some 67) v2).put (some 73) (.slice A5 L5 c5)).put (some 6) (.slice A5 L5 c5)) := hA0
      clear hA0
      refine gate_done (by kernel_rfl) ?_ _
      subst hA3 hA
      clear hsz e1 e2 e7 e9
      simp only [Act.put, List.setIfInBounds_toArray, List.set_cons_zero, List.set_cons_succ]
      go_wp2_with fail
      go_ret
      exact ⟨A5, L5, c5, _, rfl, z1, z2, HF.out.1, HL5.out, HF.out.2.1, HF.out.2.2⟩
theorem ngate_two {P : Program} {ops : Array Oper} {Q : Exit → Act → World → Prop} {md : Region.Mode} {S : World → Prop} {t i j n : Nat} {L : Array Bool} {a : Act} {w : World} (hr : Region.ready md ops L = [i, j])
    (h1 : wpOp P ops Q i (fun a' w' => (Shut t (upOne L i) → S w') ∧ wpGate P md ops Q S t n (upOne L i) a' w') a w)
    (h2 : wpOp P ops Q j (fun a' w' => (Shut t (upOne L j) → S w') ∧ wpGate P md ops Q S t n (upOne L j) a' w') a w) : wpGate P md ops Q S t (n + 1) L a w :=
  ⟨fun h0 => (by rw [hr] at h0; cases h0), fun k hk => by
    rw [hr] at hk
    simp only [List.mem_cons, List.not_mem_nil, or_false] at hk
    rcases hk with rfl | rfl
    · exact h1
    · exact h2⟩
def zeroN : List Value := [.int .i64 0, .int .i64 0, .string ⟨#[]⟩, .string ⟨#[]⟩, .string ⟨#[]⟩, .int .i64 0, .int .i64 0, .int .i64 0, .int .i64 0, .slice none 0 0]
theorem allocN_exec (o : Oper) (ho : o.op = .alloc 41) (a : Act) (V : World) (g : Nat) (hg : V.heap.size = g) : (execOp a.eval o).run Try.prog V = .ok (.value (.pointer (some ⟨g, 0, none⟩))) (V.alloc (.cells zeroN.toArray 41)) := by
  subst hg
  unfold execOp
  simp only [ho]
  simp [go_sem, zeroN]
/-- A node's block filled. -/
theorem fillN {V : World} {g : Nat} {C : List Value} (h : Box V g C) (hl : C.length = 10) (v0 v1 v2 v3 v4 v5 v6 v7 v8 v9 : Value) (hone : ∀ v ∈ [v0, v1, v2, v3, v4, v5, v6, v7, v8, v9], v.oneCell' = true) : ∃ V', (∀ (o : Oper) (x y : Operand) (a : Act), o.op = .store 41 x y → a.eval x = .pointer (some ⟨g, 0, none⟩) → a.eval y = .agg #[v0, v1, v2, v3, v4, v5, v6, v7, v8, v9] → (execOp a.eval o).run Try.prog V = .ok .skip V') ∧ Box V' g [v0, v1, v2, v3, v4, v5, v6, v7, v8, v9] ∧ (∀ g' C', g' ≠ g → Box V g' C' → Box V' g' C') ∧ ∀ U, Below U.heap.size U V → U.heap.size ≤ g → Below U.heap.size U V' :=
  ⟨_, fun o x y a ho hx hy => store10 o x y ho a V g C hl v0 v1 v2 v3 v4 v5 v6 v7 v8 v9 hx hy hone h, h.set10 hl _ _ _ _ _ _ _ _ _ _, fun g' C' hne hb => ((((((((((hb.other hne 0 _).other hne 1 _).other hne 2 _).other hne 3 _).other hne 4 _).other hne 5 _).other hne 6 _).other hne 7 _).other hne 8 _).other hne 9 _), fun U hU hg => below10 hU hg _ _ _ _ _ _ _ _ _ _⟩
set_option maxHeartbeats 8000000 in
theorem ktree_at {W : World} {g1 g2 n c d : Nat} {l l' : List Gn} (h1 : GL W (some ⟨g1, 0, none⟩) n c l) (h2 : GL W (some ⟨g2, 0, none⟩) n d l') (hn : n ≤ 1000000) (hk1 : ∀ x ∈ l, x.kids.length ≤ 1000000) (hk2 : ∀ x ∈ l', x.kids.length ≤ 1000000) :
    Calls Try.prog 17 #[.slice (some ⟨g1, 0, none⟩) n c, .slice (some ⟨g2, 0, none⟩) n d] W (AnsB W (SameL l l')) := by
  have hl1 := h1.len
  have hl2 := h2.len
  have H1 := Lib.hid h1
  have H2 := Lib.hid h2
  have HK := Lib.hid (And.intro hk1 hk2)
  have HL := Lib.hid (And.intro hl1 hl2)
  clear h1 h2 hk1 hk2 hl1 hl2
  go_enter Try.func17, Try.ntmps17
  go_wp2_with fail
  go_loopw [15] (fun u V => ∃ k : Nat, k ≤ n ∧ u = .int .i64 (k : Int) ∧ Hid (Below W.heap.size W V ∧ ∀ (j : Nat) (x y : Gn), j < k → l[j]? = some x → l'[j]? = some y → SameG x y)) (fun u _ => n - (intOf u).toNat)
  case atStart => exact ⟨0, Nat.zero_le _, rfl, Below.refl _ _, fun j x y hj => by omega⟩
  case round =>
    obtain ⟨k, hk, rfl, HQ⟩ := hrel
    obtain ⟨V, hV⟩ : ∃ z, z = wr := ⟨_, rfl⟩
    subst hV
    by_cases hlt : k < n
    · have dk : (k : Int) < (n : Int) := by omega
      obtain ⟨x, hx⟩ : ∃ z, l[k]? = some z := ⟨l[k]'(by rw [HL.out.1]; exact hlt), List.getElem?_eq_getElem _⟩
      obtain ⟨y, hy⟩ : ∃ z, l'[k]? = some z := ⟨l'[k]'(by rw [HL.out.2]; exact hlt), List.getElem?_eq_getElem _⟩
      have hkx := HK.out.1 x (List.mem_of_getElem? hx)
      have hky := HK.out.2 y (List.mem_of_getElem? hy)
      obtain ⟨q1, o1, eA, K1, c1, a1, a2, a3, a4, a5⟩ := (H1.out.below HQ.out.1).at_ k x hx
      injection eA with eA
      injection eA with e1 e2
      subst e1 e2
      obtain ⟨q2, o2, eB, K2, c2, b1, b2, b3, b4, b5⟩ := (H2.out.below HQ.out.1).at_ k y hy
      injection eB with eB
      injection eB with e1 e2
      subst e1 e2
      have HXY : Hid (∀ sx : SameL l l', SameG x y) := fun h => h.2 k x y hx hy
      have HXI : Hid (SameG x y → ∀ (j : Nat) (x' y' : Gn), j < k + 1 → l[j]? = some x' → l'[j]? = some y' → SameG x' y') := fun h j x' y' hj hx' hy' => by
        by_cases e : j = k
        · subst e
          rw [hx] at hx'
          rw [hy] at hy'
          injection hx' with hx'
          injection hy' with hy'
          subst hx' hy'
          exact h
        · exact HQ.out.2 j x' y' (by omega) hx' hy'
      have HR := Lib.hid (And.intro a4 b4)
      have C1 := Lib.hid a5
      have C2 := Lib.hid b5
      clear hx hy a4 b4 a5 b5
      obtain ⟨kd, st, tg, an, vl, p1, p2, p3, p4, ks⟩ := x
      obtain ⟨kd', st', tg', an', vl', p1', p2', p3', p4', js⟩ := y
      obtain ⟨kl, hkl⟩ : ∃ z, ks.length = z := ⟨_, rfl⟩
      obtain ⟨jl, hjl⟩ : ∃ z, js.length = z := ⟨_, rfl⟩
      simp only [hkl, hjl] at C1 C2 hkx hky a1 b1
      have HLL := Lib.hid (And.intro hkl hjl)
      have HSG : Hid (SameG ⟨kd, st, tg, an, vl, p1, p2, p3, p4, ks⟩ ⟨kd', st', tg', an', vl', p1', p2', p3', p4', js⟩ ↔ kd = kd' ∧ tg = tg' ∧ an = an' ∧ vl = vl' ∧ ks = js) := Iff.rfl
      clear hkl hjl
      have L1 : Hid (∀ (a : Act) (o : Oper) (z : Operand), o.op = .load 41 z → a.eval z = .pointer (some ⟨g1, k * 10, none⟩) → ∀ U, Below V.heap.size V U → (execOp a.eval o).run Try.prog U = .ok (.value (.agg #[.int .i64 kd, .int .i64 st, .string tg, .string an, .string vl, .int .i64 p1, .int .i64 p2, .int .i64 p3, .int .i64 p4, .slice K1 kl c1])) U) := fun a o z ho hz U hU =>
        load10o o z ho a U g1 (k * 10) _ _ _ _ _ _ _ _ _ _ hz (fun j v hk => cell_keep hU (by have := C1.out j v hk; rwa [Nat.zero_add] at this))
      have L2 : Hid (∀ (a : Act) (o : Oper) (z : Operand), o.op = .load 41 z → a.eval z = .pointer (some ⟨g2, k * 10, none⟩) → ∀ U, Below V.heap.size V U → (execOp a.eval o).run Try.prog U = .ok (.value (.agg #[.int .i64 kd', .int .i64 st', .string tg', .string an', .string vl', .int .i64 p1', .int .i64 p2', .int .i64 p3', .int .i64 p4', .slice K2 jl c2])) U) := fun a o z ho hz U hU =>
        load10o o z ho a U g2 (k * 10) _ _ _ _ _ _ _ _ _ _ hz (fun j v hk => cell_keep hU (by have := C2.out j v hk; rwa [Nat.zero_add] at this))
      clear C1 C2
      obtain ⟨c1v, hc1v⟩ : ∃ v, Value.agg #[.int .i64 kd, .int .i64 st, .string tg, .string an, .string vl, .int .i64 p1, .int .i64 p2, .int .i64 p3, .int .i64 p4, .slice K1 kl c1] = v := ⟨_, rfl⟩
      obtain ⟨c2v, hc2v⟩ : ∃ v, Value.agg #[.int .i64 kd', .int .i64 st', .string tg', .string an', .string vl', .int .i64 p1', .int .i64 p2', .int .i64 p3', .int .i64 p4', .slice K2 jl c2] = v := ⟨_, rfl⟩
      rw [hc1v] at L1
      rw [hc2v] at L2
      have HCV := Lib.hid (And.intro hc1v hc2v)
      clear hc1v hc2v
      go_upto_region 6 with fail
      go_cut [6, 7] (fun u v U => ∃ bx bb : Nat, u = .pointer (some ⟨bx, 0, none⟩) ∧ v = .pointer (some ⟨bb, 0, none⟩) ∧ Hid (Box U bx [.int .i64 kd, .int .i64 st, .string tg, .string an, .string vl, .int .i64 p1, .int .i64 p2, .int .i64 p3, .int .i64 p4, .slice K1 kl c1] ∧ Box U bb [.int .i64 kd', .int .i64 st', .string tg', .string an', .string vl', .int .i64 p1', .int .i64 p2', .int .i64 p3', .int .i64 p4', .slice K2 jl c2] ∧ Below V.heap.size V U))
      case first =>
        obtain ⟨S, hSz⟩ : ∃ z, V.heap.size = z := ⟨_, rfl⟩
        obtain ⟨D, hD⟩ : ∃ D, V.drew = D := ⟨_, rfl⟩
        have hDS : D.heap.size = S := by rw [← hD, ← hSz]; rfl
        have hDb : Below V.heap.size V D := by rw [← hD]; exact (Below.refl _ _).drew
        obtain ⟨U1, hU1⟩ : ∃ U, D.alloc (.cells zeroN.toArray 41) = U := ⟨_, rfl⟩
        have hU1b : Below V.heap.size V U1 := by rw [← hU1]; exact hDb.alloc hDb.size _
        have hU1s : U1.heap.size = S + 1 := by rw [← hU1, ← hDS]; simp
        have bx1 : Box U1 S zeroN := by rw [← hDS, ← hU1]; exact Box.new D _
        obtain ⟨U2, hU2⟩ : ∃ U, U1.alloc (.cells zeroN.toArray 41) = U := ⟨_, rfl⟩
        have hU2b : Below V.heap.size V U2 := by rw [← hU2]; exact hU1b.alloc hU1b.size _
        have bx2 : Box U2 S zeroN := bx1.below (by rw [← hU2]; exact (Below.refl _ _).alloc (Nat.le_refl _) _)
        have by2 : Box U2 (S + 1) zeroN := by rw [← hU1s, ← hU2]; exact Box.new U1 _
        have al1 : ∀ (o : Oper) (a : Act), o.op = .alloc 41 → (execOp a.eval o).run Try.prog D = .ok (.value (.pointer (some ⟨S, 0, none⟩))) U1 := fun o a ho => by rw [← hU1]; exact allocN_exec o ho a D _ hDS
        have al2 : ∀ (o : Oper) (a : Act), o.op = .alloc 41 → (execOp a.eval o).run Try.prog U1 = .ok (.value (.pointer (some ⟨S + 1, 0, none⟩))) U2 := fun o a ho => by rw [← hU2]; exact allocN_exec o ho a U1 _ hU1s
        have onx : ∀ v ∈ ([.int .i64 kd, .int .i64 st, .string tg, .string an, .string vl, .int .i64 p1, .int .i64 p2, .int .i64 p3, .int .i64 p4, .slice K1 kl c1] : List Value), v.oneCell' = true := by simp [Value.oneCell']
        have ony : ∀ v ∈ ([.int .i64 kd', .int .i64 st', .string tg', .string an', .string vl', .int .i64 p1', .int .i64 p2', .int .i64 p3', .int .i64 p4', .slice K2 jl c2] : List Value), v.oneCell' = true := by simp [Value.oneCell']
        clear hU1 hU2 hDS hU1s
        refine gen_act fun a0 hA => ?_
        have hsz : a0.tmps.size = 61 := by rw [hA]; rfl
        have e0 : a0.eval (.tmp 0) = .slice (some ⟨g1, 0, none⟩) n c := by rw [hA]; rfl
        have e1 : a0.eval (.tmp 1) = .slice (some ⟨g2, 0, none⟩) n d := by rw [hA]; rfl
        have e5 : a0.eval (.tmp 5) = .int .i64 (k : Int) := by rw [hA]; rfl
        refine region_gate (fun U => Below V.heap.size V U) 11 (by kernel_rfl) ?_
        change wpGate _ _ _ _ _ _ 12 _ _ V.drew
        rw [hD]
        have hS : Below V.heap.size V D := hDb
        refine gate_take0 (i := 0) (v := (.slice (some ⟨g1, 0, none⟩) n c)) rfl (by rfl) (by kernel_rfl) (by kernel_rfl) (by kernel_rfl) (fun _ _ _ h => h) rfl (fun U => kmove_exec _ (.tmp 0) rfl _ _ (by simp [evp_same, evp_ne, szp, hsz, e0, e1, e5, kput_none]) U) hS ?_
        refine gate_take0 (i := 1) (v := (.int .i64 (k : Int))) rfl (by rfl) (by kernel_rfl) (by kernel_rfl) (by kernel_rfl) (fun _ _ _ h => h) rfl (fun U => kmove_exec _ (.tmp 5) rfl _ _ (by simp [evp_same, evp_ne, szp, hsz, e0, e1, e5, kput_none]) U) hS ?_
        refine gate_take0 (i := 2) (v := (.pointer (some ⟨g1, k * 10, none⟩))) rfl (by rfl) (by kernel_rfl) (by kernel_rfl) (by kernel_rfl) (fun _ _ _ h => h) rfl (fun U => ixn_exec _ (.tmp 18) (.tmp 19) rfl _ U g1 n c k (by simp [evp_same, evp_ne, szp, hsz, e0, e1, e5, kput_none]) (by simp [evp_same, evp_ne, szp, hsz, e0, e1, e5, kput_none]) hlt) hS ?_
        refine gate_take (i := 3) (v := c1v) rfl (by rfl) (by kernel_rfl) (by kernel_rfl) (by kernel_rfl) (by kernel_rfl) (by kernel_rfl) (fun _ _ _ h => h) rfl (fun U hU => L1.out _ _ (.tmp 20) rfl (by simp [evp_same, evp_ne, szp, hsz, e0, e1, e5, kput_none]) U hU) hS ?_
        refine gate_take0 (i := 4) (v := (.slice (some ⟨g2, 0, none⟩) n d)) rfl (by rfl) (by kernel_rfl) (by kernel_rfl) (by kernel_rfl) (fun _ _ _ h => h) rfl (fun U => kmove_exec _ (.tmp 1) rfl _ _ (by simp [evp_same, evp_ne, szp, hsz, e0, e1, e5, kput_none]) U) hS ?_
        refine gate_take0 (i := 5) (v := (.int .i64 (k : Int))) rfl (by rfl) (by kernel_rfl) (by kernel_rfl) (by kernel_rfl) (fun _ _ _ h => h) rfl (fun U => kmove_exec _ (.tmp 5) rfl _ _ (by simp [evp_same, evp_ne, szp, hsz, e0, e1, e5, kput_none]) U) hS ?_
        refine gate_take0 (i := 6) (v := (.pointer (some ⟨g2, k * 10, none⟩))) rfl (by rfl) (by kernel_rfl) (by kernel_rfl) (by kernel_rfl) (fun _ _ _ h => h) rfl (fun U => ixn_exec _ (.tmp 22) (.tmp 23) rfl _ U g2 n d k (by simp [evp_same, evp_ne, szp, hsz, e0, e1, e5, kput_none]) (by simp [evp_same, evp_ne, szp, hsz, e0, e1, e5, kput_none]) hlt) hS ?_
        refine gate_take (i := 7) (v := c2v) rfl (by rfl) (by kernel_rfl) (by kernel_rfl) (by kernel_rfl) (by kernel_rfl) (by kernel_rfl) (fun _ _ _ h => h) rfl (fun U hU => L2.out _ _ (.tmp 24) rfl (by simp [evp_same, evp_ne, szp, hsz, e0, e1, e5, kput_none]) U hU) hS ?_
        refine ngate_two (i := 8) (j := 9) (by kernel_rfl) ?_ ?_
        · obtain ⟨U3, r3, f3, k3, z3⟩ := fillN bx2 rfl (.int .i64 kd) (.int .i64 st) (.string tg) (.string an) (.string vl) (.int .i64 p1) (.int .i64 p2) (.int .i64 p3) (.int .i64 p4) (.slice K1 kl c1) onx
          rw [HCV.out.1] at r3
          obtain ⟨U4, r4, f4, k4, z4⟩ := fillN (k3 (S + 1) _ (by omega) by2) rfl (.int .i64 kd') (.int .i64 st') (.string tg') (.string an') (.string vl') (.int .i64 p1') (.int .i64 p2') (.int .i64 p3') (.int .i64 p4') (.slice K2 jl c2) ony
          rw [HCV.out.2] at r4
          have HF : Hid (Box U4 (S) [.int .i64 kd, .int .i64 st, .string tg, .string an, .string vl, .int .i64 p1, .int .i64 p2, .int .i64 p3, .int .i64 p4, .slice K1 kl c1] ∧ Box U4 (S + 1) [.int .i64 kd', .int .i64 st', .string tg', .string an', .string vl', .int .i64 p1', .int .i64 p2', .int .i64 p3', .int .i64 p4', .slice K2 jl c2] ∧ Below V.heap.size V U4) := ⟨k4 (S) _ (by omega) f3, f4, z4 V (z3 V hU2b (by omega)) (by omega)⟩
          have hU3b := z3 V hU2b (by omega)
          refine wpOp_value rfl rfl (al1 _ _ rfl) ⟨fun _ => hU1b, ?_⟩
          refine gate_one (i := 9) (by kernel_rfl) ?_
          refine wpOp_value rfl rfl (al2 _ _ rfl) ⟨fun _ => hU2b, ?_⟩
          refine kgate_gen fun a2 hA0 => ?_
          have hA2 : a2 = ((((((((((a0.put (some 18) (.slice (some ⟨g1, 0, none⟩) n c)).put (some 19) (.int .i64 (k : Int))).put (some 20) (.pointer (some ⟨g1, k * 10, none⟩))).put (some 21) c1v).put (some 22) (.slice (some ⟨g2, 0, none⟩) n d)).put (some 23) (.int .i64 (k : Int))).put (some 24) (.pointer (some ⟨g2, k * 10, none⟩))).put (some 25) c2v).put (some 6) (.pointer (some ⟨S, 0, none⟩))).put (some 7) (.pointer (some ⟨S + 1, 0, none⟩))) := hA0
          clear hA0
          have hsz2 : a2.tmps.size = 61 := by rw [hA2]; simp [szp, hsz]
          have f6 : a2.eval (.tmp 6) = .pointer (some ⟨S, 0, none⟩) := by rw [hA2]; simp [evp_same, evp_ne, szp, hsz, e0, e1, e5, kput_none]
          have f7 : a2.eval (.tmp 7) = .pointer (some ⟨S + 1, 0, none⟩) := by rw [hA2]; simp [evp_same, evp_ne, szp, hsz, e0, e1, e5, kput_none]
          have f21 : a2.eval (.tmp 21) = c1v := by rw [hA2]; simp [evp_same, evp_ne, szp, hsz, e0, e1, e5, kput_none]
          have f25 : a2.eval (.tmp 25) = c2v := by rw [hA2]; simp [evp_same, evp_ne, szp, hsz, e0, e1, e5, kput_none]
          refine gate_one (i := 10) (by kernel_rfl) ?_
          refine wpOp_skip rfl rfl (r3 _ (.tmp 6) (.tmp 21) a2 rfl f6 f21) ⟨fun _ => hU3b, ?_⟩
          refine gate_one (i := 11) (by kernel_rfl) ?_
          refine wpOp_skip rfl rfl (r4 _ (.tmp 7) (.tmp 25) a2 rfl f7 f25) ⟨fun h => Bool.noConfusion (show true = false from h), ?_⟩
          refine kgate_gen fun a3 hA3 => ?_
          have hA4 : a3 = a2 := hA3
          clear hA3
          refine gate_done (by kernel_rfl) ?_ _
          clear f6 f7 f21 f25 hsz2
          subst hA4 hA2 hA
          clear hsz e0 e1 e5 hS al1 al2 bx1 bx2 by2 r3 f3 k3 z3 r4 f4 k4 z4
          simp only [Act.put, List.setIfInBounds_toArray, List.set_cons_zero, List.set_cons_succ]
          go_wp2_with fail
          go_meet
          exact ⟨_, _, rfl, rfl, HF.out⟩
        · obtain ⟨U3, r3, f3, k3, z3⟩ := fillN by2 rfl (.int .i64 kd) (.int .i64 st) (.string tg) (.string an) (.string vl) (.int .i64 p1) (.int .i64 p2) (.int .i64 p3) (.int .i64 p4) (.slice K1 kl c1) onx
          rw [HCV.out.1] at r3
          obtain ⟨U4, r4, f4, k4, z4⟩ := fillN (k3 (S) _ (by omega) bx2) rfl (.int .i64 kd') (.int .i64 st') (.string tg') (.string an') (.string vl') (.int .i64 p1') (.int .i64 p2') (.int .i64 p3') (.int .i64 p4') (.slice K2 jl c2) ony
          rw [HCV.out.2] at r4
          have HF : Hid (Box U4 (S + 1) [.int .i64 kd, .int .i64 st, .string tg, .string an, .string vl, .int .i64 p1, .int .i64 p2, .int .i64 p3, .int .i64 p4, .slice K1 kl c1] ∧ Box U4 (S) [.int .i64 kd', .int .i64 st', .string tg', .string an', .string vl', .int .i64 p1', .int .i64 p2', .int .i64 p3', .int .i64 p4', .slice K2 jl c2] ∧ Below V.heap.size V U4) := ⟨k4 (S + 1) _ (by omega) f3, f4, z4 V (z3 V hU2b (by omega)) (by omega)⟩
          have hU3b := z3 V hU2b (by omega)
          refine wpOp_value rfl rfl (al1 _ _ rfl) ⟨fun _ => hU1b, ?_⟩
          refine gate_one (i := 8) (by kernel_rfl) ?_
          refine wpOp_value rfl rfl (al2 _ _ rfl) ⟨fun _ => hU2b, ?_⟩
          refine kgate_gen fun a2 hA0 => ?_
          have hA2 : a2 = ((((((((((a0.put (some 18) (.slice (some ⟨g1, 0, none⟩) n c)).put (some 19) (.int .i64 (k : Int))).put (some 20) (.pointer (some ⟨g1, k * 10, none⟩))).put (some 21) c1v).put (some 22) (.slice (some ⟨g2, 0, none⟩) n d)).put (some 23) (.int .i64 (k : Int))).put (some 24) (.pointer (some ⟨g2, k * 10, none⟩))).put (some 25) c2v).put (some 7) (.pointer (some ⟨S, 0, none⟩))).put (some 6) (.pointer (some ⟨S + 1, 0, none⟩))) := hA0
          clear hA0
          have hsz2 : a2.tmps.size = 61 := by rw [hA2]; simp [szp, hsz]
          have f6 : a2.eval (.tmp 6) = .pointer (some ⟨S + 1, 0, none⟩) := by rw [hA2]; simp [evp_same, evp_ne, szp, hsz, e0, e1, e5, kput_none]
          have f7 : a2.eval (.tmp 7) = .pointer (some ⟨S, 0, none⟩) := by rw [hA2]; simp [evp_same, evp_ne, szp, hsz, e0, e1, e5, kput_none]
          have f21 : a2.eval (.tmp 21) = c1v := by rw [hA2]; simp [evp_same, evp_ne, szp, hsz, e0, e1, e5, kput_none]
          have f25 : a2.eval (.tmp 25) = c2v := by rw [hA2]; simp [evp_same, evp_ne, szp, hsz, e0, e1, e5, kput_none]
          refine gate_one (i := 10) (by kernel_rfl) ?_
          refine wpOp_skip rfl rfl (r3 _ (.tmp 6) (.tmp 21) a2 rfl f6 f21) ⟨fun _ => hU3b, ?_⟩
          refine gate_one (i := 11) (by kernel_rfl) ?_
          refine wpOp_skip rfl rfl (r4 _ (.tmp 7) (.tmp 25) a2 rfl f7 f25) ⟨fun h => Bool.noConfusion (show true = false from h), ?_⟩
          refine kgate_gen fun a3 hA3 => ?_
          have hA4 : a3 = a2 := hA3
          clear hA3
          refine gate_done (by kernel_rfl) ?_ _
          clear f6 f7 f21 f25 hsz2
          subst hA4 hA2 hA
          clear hsz e0 e1 e5 hS al1 al2 bx1 bx2 by2 r3 f3 k3 z3 r4 f4 k4 z4
          simp only [Act.put, List.setIfInBounds_toArray, List.set_cons_zero, List.set_cons_succ]
          go_wp2_with fail
          go_meet
          exact ⟨_, _, rfl, rfl, HF.out⟩
      case rest =>
        obtain ⟨bx, bb, rfl, rfl, HC⟩ := hcut
        obtain ⟨U, hU⟩ : ∃ z, z = wc := ⟨_, rfl⟩
        subst hU
        have HB2 := Lib.hid (below_step HQ.out.1 HC.out.2.2)
        have X0 := HC.out.1.cell 0 _ rfl
        have Y0 := HC.out.2.1.cell 0 _ rfl
        have X2 := HC.out.1.cell 2 _ rfl
        have Y2 := HC.out.2.1.cell 2 _ rfl
        have X3 := HC.out.1.cell 3 _ rfl
        have Y3 := HC.out.2.1.cell 3 _ rfl
        have X4 := HC.out.1.cell 4 _ rfl
        have Y4 := HC.out.2.1.cell 4 _ rfl
        have X9 := HC.out.1.cell 9 _ rfl
        have Y9 := HC.out.2.1.cell 9 _ rfl
        have HE : Hid (Calls Try.prog 49 #[.slice K1 kl c1, .slice K2 jl c2] U (AnsB U (ks = js))) := ksameI_at HLL.out.1 HLL.out.2 hkx hky (HR.out.1.below HC.out.2.2) (HR.out.2.below HC.out.2.2)
        by_cases h1 : kd = kd'
        · subst h1
          have n1 : (kd != kd) = false := bne_self_eq_false kd
          by_cases h2 : tg = tg'
          · subst h2
            by_cases h3 : an = an'
            · subst h3
              by_cases h4 : vl = vl'
              · subst h4
                go_wp2_with fail
                refine HE.out.mono ?_
                rintro e w' ⟨b, rfl, hb, hbb⟩
                have HBB := Lib.hid (And.intro hb hbb)
                clear hb hbb
                cases b with
                | true =>
                  go_wp2_with fail
                  go_roundw
                  case rel => exact ⟨k + 1, by omega, by go_num, below_step HB2.out HBB.out.2, HXI.out (HSG.out.2 ⟨by trivial, by trivial, by trivial, by trivial, HBB.out.1.1 (by trivial)⟩)⟩
                  case measure => simp [intOf]; omega
                | false =>
                  go_wp2_with fail
                  go_ret
                  refine ⟨false, rfl, ⟨fun h => (by cases h), fun h => ?_⟩, below_step HB2.out HBB.out.2⟩
                  have := HBB.out.1.2 (HSG.out.1 (HXY.out h)).2.2.2.2
                  cases this
              · have e4 := gstr_ne h4
                go_wp2_with fail
                go_ret
                exact ⟨false, rfl, ⟨fun h => (by cases h), fun h => absurd (HSG.out.1 (HXY.out h)).2.2.2.1 h4⟩, HB2.out⟩
            · have e3 := gstr_ne h3
              go_wp2_with fail
              go_ret
              exact ⟨false, rfl, ⟨fun h => (by cases h), fun h => absurd (HSG.out.1 (HXY.out h)).2.2.1 h3⟩, HB2.out⟩
          · have e2 := gstr_ne h2
            go_wp2_with fail
            go_ret
            exact ⟨false, rfl, ⟨fun h => (by cases h), fun h => absurd (HSG.out.1 (HXY.out h)).2.1 h2⟩, HB2.out⟩
        · have e1 : (kd != kd') = true := bne_iff_ne.2 h1
          go_wp2_with fail
          go_ret
          exact ⟨false, rfl, ⟨fun h => (by cases h), fun h => absurd (HSG.out.1 (HXY.out h)).1 h1⟩, HB2.out⟩
    · obtain rfl : k = n := by omega
      go_wp2
      go_ret
      refine ⟨true, rfl, ⟨fun _ => ⟨by rw [HL.out.1, HL.out.2], fun i x y hx hy => HQ.out.2 i x y (by have := (List.getElem?_eq_some_iff.1 hx).1; rw [HL.out.1] at this; exact this) hx hy⟩, fun _ => rfl⟩, HQ.out.1⟩
theorem dLv_yes {kd u : Int} (h : kd = 2 ∨ kd = 3) : dLv kd u = u + 1 := by
  unfold dLv
  rcases h with rfl | rfl <;> rfl
theorem dLv_no {kd u : Int} (h2 : ¬ kd = 2) (h3 : ¬ kd = 3) : dLv kd u = u := by
  unfold dLv
  rw [if_neg]
  simp [h2, h3]
theorem dLv_ge (kd u : Int) : u ≤ dLv kd u := by unfold dLv; split <;> omega
/-- What DepthFrom answers: no more than so many if no place below is. -/
def DpF (v : Nat → Int) (s e : Nat) (u d : Int) : Prop := 0 ≤ d ∧ ∀ B : Int, u + d ≤ B ↔ ∀ i, s ≤ i → i < e → v i ≤ B
theorem DpF.le {v : Nat → Int} {s e : Nat} {u d : Int} (h : DpF v s e u d) (hu : 0 ≤ u) {B : Int} (hB : ∀ i, i < e → v i ≤ B) : d ≤ B := by
  have := (h.2 B).2 (fun i _ hi => hB i hi)
  omega
/-- So far: the node itself and the trees of some Kids. -/
def DpS (v : Nat → Int) (s p : Nat) (z : Int) : Prop := ∀ B : Int, v s + z ≤ B ↔ v s ≤ B ∧ ∀ i, s + 1 ≤ i → i < p → v i ≤ B
theorem DpS.start (v : Nat → Int) (s : Nat) : DpS v s (s + 1) 0 := fun B => ⟨fun h => ⟨by omega, fun i h1 h2 => by omega⟩, fun h => by omega⟩
theorem DpS.step {v : Nat → Int} {s p e : Nat} {z d : Int} (h : DpS v s p z) (hd : DpF v p e (v s) d) (hp : s + 1 ≤ p) (he : p ≤ e) : DpS v s e (max z d) := by
  intro B
  have h1 := h B
  have h2 := hd.2 B
  constructor
  · intro g
    have g1 := h1.1 (by omega)
    have g2 := h2.1 (by omega)
    refine ⟨g1.1, fun i q1 q2 => ?_⟩
    by_cases hi : i < p
    · exact g1.2 i q1 hi
    · exact g2 i (by omega) q2
  · intro g
    have g1 := h1.2 ⟨g.1, fun i q1 q2 => g.2 i q1 (by omega)⟩
    have g2 := h2.2 (fun i q1 q2 => g.2 i (by omega) q2)
    omega
theorem DpS.fin {v : Nat → Int} {s e : Nat} {z u d : Int} (h : DpS v s e z) (hz : 0 ≤ z) (hd : 0 ≤ d) (hs : s < e) (hu : u + d = v s + z) : DpF v s e u d := by
  refine ⟨hd, fun B => ?_⟩
  rw [hu, h B]
  constructor
  · intro g i q1 q2
    by_cases hi : i = s
    · rw [hi]; exact g.1
    · exact g.2 i (by omega) q2
  · intro g
    exact ⟨g s (Nat.le_refl _) hs, fun i q1 q2 => g i (by omega) q2⟩
section
variable {W : World} {g cap n : Nat} {l : List Gn} {E : Nat → Nat} {v : Nat → Int}
set_option maxHeartbeats 8000000 in
theorem rdepthF_at (hL : GL W (some ⟨g, 0, none⟩) n cap l) (hE : GE l E) (hv : Lev l v) (hb : ∀ i, i < n → v i ≤ 1000001) (hn : n ≤ 1000000) :
    ∀ (f s : Nat) (u : Int), s < n → E s - s ≤ f → v s = dLv (kindAt l s) u → 0 ≤ u → Calls Try.prog 15 #[.slice (some ⟨g, 0, none⟩) n cap, .int .i64 (s : Int)] W fun e w' => ∃ d : Int, e = .returned (.int .i64 d) ∧ Hid (DpF v s (E s) u d) ∧ W = w' := by
  intro f
  induction f with
  | zero =>
    intro s u hs hf hvs hu
    have := (hE.lt (by rw [hL.len]; exact hs)).1
    omega
  | succ f ih =>
    intro s u hs hf hvs hu
    have hsl : s < l.length := by rw [hL.len]; exact hs
    obtain ⟨x, hx⟩ : ∃ x, l[s]? = some x := ⟨_, List.getElem?_eq_getElem hsl⟩
    have hlt := hE.lt hsl
    rw [hL.len] at hlt
    have ds : (s : Int) < (n : Int) := by omega
    have hS := hE.small (by rw [hL.len]; exact hn)
    obtain ⟨hkn, _⟩ := hS x (List.mem_of_getElem? hx)
    obtain ⟨g1, o1, eA, K, c, a1, a2, a3, a4, a5⟩ := hL.at_ s x hx
    injection eA with eA
    injection eA with e1 e2
    subst e1 e2
    have y9 := a5 9 _ rfl
    have y0 := a5 0 _ rfl
    rw [Nat.zero_add] at y9 y0
    rw [Nat.add_zero] at y0
    rw [kindAt_is hx] at hvs
    have hv0 : 0 ≤ v s := by have := dLv_ge x.kind u; omega
    have IH := Lib.hid ih
    have HLN := Lib.hid hL.len
    have HE := Lib.hid hE
    have HKE := Lib.hid (hE.kpos_end hx)
    have HX := Lib.hid hx
    have HV := Lib.hid (And.intro hv (And.intro hb (And.intro hvs hu)))
    have HV0 := Lib.hid hv0
    obtain ⟨kl, hkl⟩ : ∃ z, x.kids.length = z := ⟨_, rfl⟩
    rw [hkl] at y9 a1 hkn
    have HKL := Lib.hid hkl
    have HRD := Lib.hid a4
    obtain ⟨kd, hkd⟩ : ∃ z, x.kind = z := ⟨_, rfl⟩
    rw [hkd] at y0
    have HKD := Lib.hid hkd
    have HLT := Lib.hid hlt
    clear ih hx hL hE hS a5 a4 hkl hsl hv hb hvs hu hv0 hkd hlt
    go_enter Try.func15, Try.ntmps15
    go_wp2_with fail
    go_loopw [14, 5] (fun i m V => ∃ j : Nat, j ≤ kl ∧ i = .int .i64 (j : Int) ∧ V = W ∧ ∃ z : Int, 0 ≤ z ∧ z ≤ 1000001 ∧ m = .int .i64 z ∧ Hid (DpS v s (kpos E s x.kids j) z)) (fun i _ _ => kl - (intOf i).toNat)
    case atStart => exact ⟨0, Nat.zero_le _, rfl, by trivial, 0, by omega, by omega, rfl, DpS.start v s⟩
    case round =>
      obtain ⟨j, hj, rfl, rfl, z, hz0, hz, rfl, HZ⟩ := hrel
      by_cases hjl : j < kl
      · have dj : (j : Int) < (kl : Int) := by omega
        obtain ⟨k, hk⟩ : ∃ z, x.kids[j]? = some z := ⟨x.kids[j]'(by rw [HKL.out]; omega), List.getElem?_eq_getElem _⟩
        obtain ⟨gk, ok, rfl, hcell⟩ := HRD.out.addr (by rw [ki_len, HKL.out]; omega)
        have ck := hcell j _ (ki_at hk)
        obtain ⟨p1, p2, p3, _⟩ := HE.out.kid HX.out hk
        have p4 := HE.out.last_le HX.out _ j k (Nat.le_refl _) hk
        obtain ⟨p5, p6⟩ := HE.out.kpos_kid HX.out hk
        have p7 := HE.out.lt p3
        have p8 : kpos E s x.kids (j + 1) = E k.toNat := kpos_succ hk
        obtain ⟨y, hy⟩ : ∃ y, l[k.toNat]? = some y := ⟨_, List.getElem?_eq_getElem p3⟩
        have p9 := HV.out.1.kid s x HX.out k (List.mem_of_getElem? hk) y hy
        rw [HLN.out] at p3 p7
        obtain ⟨t, rfl⟩ : ∃ t : Nat, k = (t : Int) := ⟨k.toNat, by omega⟩
        rw [Int.toNat_natCast] at p2 p3 p4 p6 p7 p8 p9 hy
        have CI := Lib.hid (IH.out t (v s) p3 (by omega) (by rw [kindAt_is hy]; exact p9) HV0.out)
        have HT := Lib.hid (And.intro p2 (And.intro p6 (And.intro p7 p8)))
        clear hk hcell p1 p2 p4 p5 p6 p7 p8 p9 hy
        go_wp2_with fail
        refine CI.out.mono ?_
        clear CI
        rintro e w3 ⟨d, rfl, HD, rfl⟩
        have hd0 := HD.out.1
        have hd1 := HD.out.le HV0.out (B := 1000001) (fun i hi => HV.out.2.1 i (by have := HT.out.2.2.1; omega))
        have HN : Hid (DpS v s (kpos E s x.kids (j + 1)) (max z d)) := by
          have h1 := HZ.out
          rw [← HT.out.2.1] at h1
          show DpS v s _ _
          rw [HT.out.2.2.2]
          exact h1.step HD.out HT.out.1 (by have := HT.out.2.2.1; omega)
        obtain ⟨y, hy⟩ : ∃ y, max z d = y := ⟨_, rfl⟩
        have hy0 : 0 ≤ y := by omega
        have hy1 : y ≤ 1000001 := by omega
        rw [hy] at HN
        go_wp2_with fail
        go_roundw
        case rel => exact ⟨j + 1, by omega, by go_num, by trivial, y, hy0, hy1, by rw [← hy]; congr 1; split <;> omega, HN⟩
        case measure => simp [intOf]; omega
      · obtain rfl : j = kl := by omega
        have hfin : ∀ d : Int, 0 ≤ d → u + d = v s + z → DpF v s (E s) u d := fun d hd hu => by
          have h1 := HZ.out
          have h2 := HKE.out
          rw [HKL.out] at h2
          rw [h2] at h1
          exact h1.fin hz0 hd HLT.out.1 hu
        have HF := Lib.hid hfin
        have hvs := HV.out.2.2.1
        rw [HKD.out] at hvs
        have HVS := Lib.hid hvs
        clear hfin hvs
        by_cases h2 : kd = 2
        · go_wp2_with fail
          go_ret
          exact ⟨z + 1, rfl, HF.out _ (by omega) (by rw [HVS.out, dLv_yes (.inl h2)]; omega), by trivial⟩
        · by_cases h3 : kd = 3
          · go_wp2_with fail
            go_ret
            exact ⟨z + 1, rfl, HF.out _ (by omega) (by rw [HVS.out, dLv_yes (.inr h3)]; omega), by trivial⟩
          · have hk : (kd == 2 || kd == 3) = false := by simp [h2, h3]
            go_wp2_with fail
            go_ret
            exact ⟨z, rfl, HF.out _ hz0 (by rw [HVS.out, dLv_no h2 h3]), by trivial⟩
theorem rdepth_at (hL : GL W (some ⟨g, 0, none⟩) n cap l) (hE : GE l E) (hn : n ≤ 1000000) (h0 : 0 < n) :
    Calls Try.prog 15 #[.slice (some ⟨g, 0, none⟩) n cap, .int .i64 0] W fun e w' => e = .returned (.int .i64 (depthF l)) ∧ W = w' := by
  have hlen := hL.len
  have hv := hE.lev
  obtain ⟨x, hx⟩ : ∃ x, l[0]? = some x := ⟨_, List.getElem?_eq_getElem (by omega)⟩
  have hb : ∀ i, i < n → levF l i ≤ 1000001 := fun i hi => by have := levF_le l i; omega
  refine (rdepthF_at hL hE hv hb hn (E 0 - 0) 0 0 h0 (Nat.le_refl _) (by rw [kindAt_is hx]; exact hv.root x hx) (Int.le_refl _)).mono ?_
  rintro e w' ⟨d, rfl, HD, rfl⟩
  refine ⟨?_, rfl⟩
  have hE0 : E 0 = l.length := by
    have := hE.ends.root
    rwa [List.length_map] at this
  have h1 := (hE.depth_le hv (depthF l)).1 (Int.le_refl _)
  have h2 := (HD.out.2 (depthF l)).2 (fun i _ hi => h1.2 i (by omega))
  have h3 := (hE.depth_le hv d).2 ⟨HD.out.1, fun i hi => (HD.out.2 d).1 (by omega) i (Nat.zero_le _) (by omega)⟩
  have : d = depthF l := by omega
  rw [this]
end
def PlOk (M : Nat) (x : Nd) : Prop := x.st ≤ M ∧ x.en ≤ M ∧ x.hd ≤ M ∧ x.mr ≤ M
def PlC (b : List Int) (child : Nat → Nat → InR) : Prop := ∀ s base l n, s ≤ b.length → child s base = .ok (l, n) → ∀ x ∈ l, PlOk b.length x
def PlE (b : List Int) (ent : Nat → Nat → InE) : Prop := ∀ s base ks l n, s ≤ b.length → ent s base = .ok (ks, l, n) → ∀ x ∈ l, PlOk b.length x
theorem pl_item {b : List Int} {child : Nat → Nat → InR} (h : PlC b child) : PlE b (inItem child) := by
  intro s base ks l n hs he
  unfold inItem at he
  cases hc : child s base with
  | error e => rw [hc] at he; cases he
  | ok y =>
    obtain ⟨l', n'⟩ := y
    rw [hc] at he
    simp only [] at he
    split at he
    · cases he
    · simp only [Except.ok.injEq, Prod.mk.injEq] at he
      obtain ⟨rfl, rfl, rfl⟩ := he
      exact h s base l' n' hs hc
theorem pl_val {M : Nat} (l : List Nd) (hd mk : Nat) (less : Bool) (h1 : hd ≤ M) (h2 : mk ≤ M) (h : ∀ x ∈ l, PlOk M x) : ∀ x ∈ inVal l hd mk less, PlOk M x := by
  cases l with
  | nil => exact h
  | cons y t =>
    intro x hx
    rcases List.mem_cons.1 hx with rfl | hx
    · obtain ⟨q1, q2, q3, q4⟩ := h y (by simp)
      cases less
      · exact ⟨q1, q2, h1, h2⟩
      · exact ⟨h2, h2, h1, h2⟩
    · exact h x (by simp [hx])
theorem pl_pair {b : List Int} {child : Nat → Nat → InR} (h : PlC b child) : PlE b (inPair child b) := by
  intro s base ks l n hs he
  unfold inPair at he
  cases hk : inKey b s with
  | none => rw [hk] at he; cases he
  | some y =>
    obtain ⟨k, m⟩ := y
    rw [hk] at he
    simp only [] at he
    obtain ⟨k1, k2⟩ := key_size hs hk
    have hkey : PlOk b.length k := by
      unfold inKey at hk
      cases hl : inLeaf b true s with
      | none => rw [hl] at hk; cases hk
      | some y =>
        obtain ⟨kd, st, v, q⟩ := y
        rw [hl] at hk
        simp only [] at hk
        split at hk
        · simp only [Option.some.injEq, Prod.mk.injEq] at hk
          obtain ⟨rfl, rfl⟩ := hk
          exact ⟨hs, k2, hs, hs⟩
        · cases hk
    split at he
    · rename_i hcol
      have b2 := colon_lt hcol
      have b4 := blk_le (b := b) (s := inBlk b m + 1) (by omega)
      cases hc : child (inBlk b (inBlk b m + 1)) (base + 1) with
      | error e => rw [hc] at he; cases he
      | ok y =>
        obtain ⟨l', n'⟩ := y
        rw [hc] at he
        simp only [Except.ok.injEq, Prod.mk.injEq] at he
        obtain ⟨rfl, rfl, rfl⟩ := he
        have h2 := h _ _ _ _ b4 hc
        intro x hx
        rcases List.mem_cons.1 hx with rfl | hx
        · exact hkey
        · exact pl_val l' _ _ _ hs (by omega) h2 x hx
    · cases he
theorem pl_loop {b : List Int} {ent : Nat → Nat → InE} (hz : SizeE b ent) (h : PlE b ent) (c : Int) : ∀ (g s base : Nat) (ks : List Nat) (bl : List Nd) (K : List Nat) (L : List Nd) (n : Nat), s ≤ b.length → (∀ x ∈ bl, PlOk b.length x) →
    inLoop ent b c g s base ks bl = .ok (K, L, n) → ∀ x ∈ L, PlOk b.length x
  | 0, _, _, _, _, _, _, _, _, _, he => by cases he
  | g + 1, s, base, ks, bl, K, L, n, hs, hx, he => by
    rw [inLoop] at he
    cases hc : ent s base with
    | error e => rw [hc] at he; cases he
    | ok y =>
      obtain ⟨k, l, m⟩ := y
      rw [hc] at he
      simp only [] at he
      have h2 := h s base k l m hs hc
      have h3 := hz s base k l m hs hc
      have f2 : ∀ x ∈ bl ++ l, PlOk b.length x := fun x hx' => by
        rcases List.mem_append.1 hx' with hx' | hx'
        · exact hx x hx'
        · exact h2 x hx'
      split at he
      · simp only [Except.ok.injEq, Prod.mk.injEq] at he
        obtain ⟨rfl, rfl, rfl⟩ := he
        exact f2
      · split at he
        · rename_i h44
          have b2 := getD_lt (b := b) (k := inBlk b m) (by rw [h44]; decide)
          have b4 := blk_le (b := b) (s := inBlk b m + 1) (by omega)
          exact pl_loop hz h c g _ (base + l.length) (ks ++ k) (bl ++ l) K L n b4 f2 he
        · cases he
theorem pl_coll {b : List Int} {ent : Nat → Nat → InE} (hz : SizeE b ent) (h : PlE b ent) (c : Int) {s base : Nat} {ks : List Nat} {l : List Nd} {n : Nat} (hs : s < b.length) (he : inColl ent b c s base = .ok (ks, l, n)) : ∀ x ∈ l, PlOk b.length x := by
  unfold inColl at he
  have b2 := blk_le (b := b) (s := s + 1) (by omega)
  split at he
  · simp only [Except.ok.injEq, Prod.mk.injEq] at he
    obtain ⟨rfl, rfl, rfl⟩ := he
    exact fun x hx => (by cases hx)
  · exact pl_loop hz h c _ _ base [] [] ks l n b2 (fun x hx => (by cases hx)) he
theorem pl_nodeG {b : List Int} {child : Nat → Nat → InR} (hz : SizeC b child) (h : PlC b child) (deep fl : Bool) : PlC b (inNodeG child deep b fl) := by
  intro s base l n hs he
  unfold inNodeG at he
  have hp := takeP_len (b.drop s)
  rw [List.length_drop] at hp
  split at he
  · generalize hq : Pr.takeP (b.drop s) = p at *
    obtain ⟨t, a, m, ok⟩ := p
    simp only [] at he hp
    have b1 := blk_ge b (s + m)
    have b2 := blk_le (b := b) (s := s + m) (by omega)
    cases hc : inCont child deep b fl (inBlk b (s + m)) (base + 1) with
    | error e => rw [hc] at he; cases he
    | ok y =>
      obtain ⟨x, l', n'⟩ := y
      rw [hc] at he
      obtain ⟨h1, h2, h3, h4, h5⟩ := cont_size hz b2 hc
      have hx : ∀ y ∈ l', PlOk b.length y := by
        unfold inCont at hc
        have nil1 : ∀ y ∈ ([] : List Nd), PlOk b.length y := fun y hy => (by cases hy)
        split at hc
        · split at hc
          · simp only [Except.ok.injEq, Prod.mk.injEq] at hc
            obtain ⟨rfl, rfl, rfl⟩ := hc
            exact nil1
          · cases hc
        · split at hc
          · rename_i h91
            have hlt := getD_lt (b := b) (k := inBlk b (s + m)) (by rw [h91]; decide)
            split at hc
            · cases hc
            · cases hq : inColl (inItem child) b 93 (inBlk b (s + m)) (base + 1) with
              | error e => rw [hq] at hc; cases hc
              | ok y =>
                obtain ⟨ks, l2, n2⟩ := y
                rw [hq] at hc
                simp only [Except.ok.injEq, Prod.mk.injEq] at hc
                obtain ⟨rfl, rfl, rfl⟩ := hc
                exact pl_coll (item_size hz) (pl_item h) 93 hlt hq
          · split at hc
            · rename_i h123
              have hlt := getD_lt (b := b) (k := inBlk b (s + m)) (by rw [h123]; decide)
              split at hc
              · cases hc
              · cases hq : inColl (inPair child b) b 125 (inBlk b (s + m)) (base + 1) with
                | error e => rw [hq] at hc; cases hc
                | ok y =>
                  obtain ⟨ks, l2, n2⟩ := y
                  rw [hq] at hc
                  simp only [Except.ok.injEq, Prod.mk.injEq] at hc
                  obtain ⟨rfl, rfl, rfl⟩ := hc
                  exact pl_coll (pair_size hz) (pl_pair h) 125 hlt hq
            · cases hq : inLeaf b fl (inBlk b (s + m)) with
              | none => rw [hq] at hc; cases hc
              | some y =>
                obtain ⟨k, st, v, m2⟩ := y
                rw [hq] at hc
                simp only [Except.ok.injEq, Prod.mk.injEq] at hc
                obtain ⟨rfl, rfl, rfl⟩ := hc
                exact nil1
      have fin : ∀ (st en : Nat), st ≤ b.length → en ≤ b.length → ∀ y ∈ inFin x t a st en :: l', PlOk b.length y := by
        intro st en g1 g2 y hy
        rcases List.mem_cons.1 hy with rfl | hy
        · exact ⟨g1, g2, g1, g1⟩
        · exact hx y hy
      simp only [inDone] at he
      split at he
      · cases he
      · split at he
        · simp only [Except.ok.injEq, Prod.mk.injEq] at he
          obtain ⟨rfl, rfl⟩ := he
          exact fin _ _ hs (by omega)
        · simp only [Except.ok.injEq, Prod.mk.injEq] at he
          obtain ⟨rfl, rfl⟩ := he
          refine fin _ _ ?_ h2
          split
          · exact b2
          · exact hs
  · cases he
theorem node_pl (b : List Int) : ∀ (f : Nat) (fl : Bool), PlC b (inNode f b fl)
  | 0, fl => pl_nodeG (fun s base l n _ h => by cases h) (fun s base l n _ h => by cases h) true fl
  | f + 1, fl => pl_nodeG (node_size b f true) (node_pl b f true) false fl
theorem parse_pl {b : List Int} {l : List Nd} (h : inParse b true = .ok l) : ∀ x ∈ l, PlOk 65536 x := by
  unfold inParse at h
  split at h
  · rename_i ht
    have hlen : b.length ≤ 65536 := by
      unfold inText at ht
      simp only [Bool.and_eq_true, beq_iff_eq] at ht
      exact rchk_y b ht.1
    cases hn : inNode 64 b true 0 0 with
    | error e => rw [hn] at h; cases h
    | ok y =>
      obtain ⟨l', n⟩ := y
      rw [hn] at h
      dsimp only at h
      split at h
      · cases h
      · simp only [Except.ok.injEq] at h
        subst h
        intro x hx
        obtain ⟨q1, q2, q3, q4⟩ := node_pl b 64 true 0 0 _ _ (Nat.zero_le _) hn x hx
        exact ⟨by omega, by omega, by omega, by omega⟩
  · cases h
theorem oneX_pl : ∀ x ∈ [oneX], PlOk 65536 x := fun x hx => by
  simp only [List.mem_singleton] at hx
  subst hx
  exact ⟨by decide, by decide, by decide, by decide⟩
theorem pl_near {l : List Nd} (h : ∀ x ∈ l, PlOk 65536 x) : ∀ y ∈ l.map gn, Near y := by
  intro y hy
  obtain ⟨x, hx, rfl⟩ := List.mem_map.1 hy
  obtain ⟨q1, q2, q3, q4⟩ := h x hx
  unfold Near gn
  refine ⟨?_, ?_, ?_, ?_, ?_, ?_, ?_, ?_⟩ <;> simp only <;> omega
set_option maxHeartbeats 2000000 in
theorem made_at2 {w W : World} {A1 A2 : Option Addr} {n1 c1 n2 c2 : Nat} (hp : PlanIn w A1 n1 c1 A2 n2 c2) (hb : Below w.heap.size w W) :
    Calls Try.prog 7 #[.agg #[.slice A1 n1 c1, .slice A2 n2 c2]] W fun e w' => ∃ (g n cap : Nat) (P : List NK), e = .returned (.slice (some ⟨g, 0, none⟩) n cap) ∧ Nds W.heap.size w' (.slice (some ⟨g, 0, none⟩) n cap) P ∧ P.length = n ∧ TreeOk (lst P) ∧ (∀ x ∈ lst P, PlOk 65536 x) ∧ Below W.heap.size W w' := by
  obtain ⟨W0, hW0⟩ : ∃ W0, W.alloc (.cells #[.slice A1 n1 c1, .slice A2 n2 c2] 25) = W0 := ⟨_, rfl⟩
  have pq0 : W0.cell? ⟨W.heap.size, 0, none⟩ = some (.slice A1 n1 c1) := by rw [← hW0, World.cell?_alloc_mark]; rfl
  have pq1 : W0.cell? ⟨W.heap.size, 1, none⟩ = some (.slice A2 n2 c2) := by rw [← hW0, World.cell?_alloc_mark]; rfl
  have hb0 : Below W.heap.size W W0 := by rw [← hW0]; exact (Below.refl _ _).alloc (Nat.le_refl _) _
  have HB0 := Lib.hid hb0
  have HP := Lib.hid (planIn_in hp (below_step hb hb0))
  have h48 : pySz 4 ≤ 30000 := by decide
  clear hp hb hb0
  go_enter Try.func7, Try.ntmps7
  go_wp2_with fail
  clear hW0 pq0 pq1
  refine (play_at HP.out (Below.refl _ _)).mono ?_
  rintro e W1 ⟨s, hs, rfl, hbb⟩
  have hsz : s.size ≤ 30000 := by have := pyN_len 4 _ hs; rw [byt_len] at this; omega
  have HB1 := Lib.hid (below_step HB0.out hbb)
  clear hs hbb h48
  obtain ⟨r, hr⟩ : ∃ r, inParse (byt s) true = r := ⟨_, rfl⟩
  have HR := Lib.hid hr
  clear hr
  go_wp2_with fail
  refine (tree_at W1 s (by omega) r HR.out).mono ?_
  intro e W2 h2
  cases r with
  | error q =>
    obtain ⟨rfl, hb2⟩ := h2
    have HB2 := Lib.hid (below_step HB1.out hb2)
    clear hb2
    have hone := Nds.one (B := W.heap.size) W2 HB2.out.size oneX rfl
    have hcc : (ndC (oneX, .slice none 0 0)).toArray = #[.int .i64 1, .int .i64 0, .string ⟨#[33, 33, 115, 116, 114]⟩, .string ⟨#[]⟩, .string ⟨#[120]⟩, .int .i64 0, .int .i64 1, .int .i64 0, .int .i64 0, .slice none 0 0] := rfl
    rw [hcc] at hone
    have HO := Lib.hid hone
    clear hone hcc
    go_wp2_with fail
    go_ret
    exact ⟨_, _, _, _, rfl, HO.out, rfl, oneX_tree, oneX_pl, HB2.out.alloc HB2.out.size _⟩
  | ok l =>
    obtain ⟨v, P, rfl, hN, hl, hb2⟩ := h2
    have hok : TreeOk l ∧ ∀ x ∈ l, PlOk 65536 x := ⟨parse_tree HR.out, parse_pl HR.out⟩
    rw [← hl] at hok
    have hpl : 0 < P.length := by have := hok.1.pos; rwa [lst_len] at this
    obtain ⟨g, cap, rfl, h1, h2, h3, h4⟩ := hN.form hpl
    obtain ⟨n, hn⟩ : ∃ n, P.length = n := ⟨_, rfl⟩
    rw [hn] at hN ⊢
    have HN := Lib.hid (And.intro (hN.low HB1.out.size) (And.intro hn (And.intro hok (below_step HB1.out hb2))))
    clear hN hl hb2 hok hpl hn h1 h2 h3 h4
    go_wp2_with fail
    go_ret
    exact ⟨_, _, _, P, rfl, HN.out.1, HN.out.2.1, HN.out.2.2.1.1, HN.out.2.2.1.2, HN.out.2.2.2⟩
theorem made_tree2 {w W : World} {A1 A2 : Option Addr} {n1 c1 n2 c2 : Nat} (hp : PlanIn w A1 n1 c1 A2 n2 c2) (hb : Below w.heap.size w W) :
    Calls Try.prog 7 #[.agg #[.slice A1 n1 c1, .slice A2 n2 c2]] W fun e w' => ∃ (g n cap : Nat) (l : List Gn) (E : Nat → Nat), e = .returned (.slice (some ⟨g, 0, none⟩) n cap) ∧ 1 ≤ n ∧ n ≤ 65537 ∧ n ≤ cap ∧ cap ≤ 9223372036854775807 ∧ (TreeIn w' (some ⟨g, 0, none⟩) n cap l E ∧ ∀ x ∈ l, Near x) ∧ Below W.heap.size W w' := by
  refine (made_at2 hp hb).mono ?_
  rintro e W1 ⟨g, n, cap, P, rfl, hP, hn, hT, hN, hbb⟩
  have hgl := hP.gl hn
  refine ⟨g, n, cap, (lst P).map gn, tEnd (lst P), rfl, ?_, ?_, hgl.le, hgl.max, ⟨⟨hgl, (ends_of hT.tree).ge⟩, pl_near hN⟩, hbb⟩
  · rw [← hn, ← lst_len]; exact hT.pos
  · rw [← hn, ← lst_len]; exact hT.len
theorem NewG.out0 {W w' : World} {l : List Gn} {e : Ending} (h : NewG W l e w') : ∃ A cap, e = .returned (.slice A l.length cap) ∧ l.length ≤ cap ∧ cap ≤ 9223372036854775807 ∧ GL w' A l.length cap l ∧ Below W.heap.size W w' ∧ ∀ g o, A = some ⟨g, o, none⟩ → o = 0 := by
  obtain ⟨A, m, cap, P, rfl, q1, q2, q3, q4, q5, q6⟩ := h
  have hl : l.length = m := by rw [← q5, ← q4]; simp [glst]
  have hgl := q3.gl q4
  rw [q5] at hgl
  subst hl
  refine ⟨A, cap, rfl, q1, q2, hgl, q6, fun g o hA => ?_⟩
  rcases q3.row.2 with ⟨e1, _⟩ | ⟨g', cap', cur, e1, _⟩
  · simp only [Value.slice.injEq] at e1
    rw [e1.1] at hA
    cases hA
  · simp only [Value.slice.injEq] at e1
    rw [e1.1] at hA
    injection hA with hA
    injection hA with _ h2
    exact h2.symm
set_option maxHeartbeats 1000000 in
theorem ktree_any {W : World} {g1 g2 n m c d : Nat} {l l' : List Gn} (h1 : GL W (some ⟨g1, 0, none⟩) n c l) (h2 : GL W (some ⟨g2, 0, none⟩) m d l') (hn : n ≤ 1000000) (hm : m ≤ 1000000) (hk1 : ∀ x ∈ l, x.kids.length ≤ 1000000) (hk2 : ∀ x ∈ l', x.kids.length ≤ 1000000) :
    Calls Try.prog 17 #[.slice (some ⟨g1, 0, none⟩) n c, .slice (some ⟨g2, 0, none⟩) m d] W (AnsB W (SameL l l')) := by
  by_cases hnm : n = m
  · subst hnm
    exact ktree_at h1 h2 hn hk1 hk2
  · have hne : ¬ SameL l l' := fun h => hnm (by rw [← h1.len, ← h2.len, h.1])
    have hnm2 : ¬ (n : Int) = (m : Int) := by omega
    have hnm3 : ((n : Int) != (m : Int)) = true := bne_iff_ne.2 hnm2
    clear h1 h2 hk1 hk2
    go_enter Try.func17, Try.ntmps17
    go_wp2
    go_ret
    exact ⟨false, rfl, ⟨fun h => (by cases h), fun h => absurd h hne⟩, Below.refl _ _⟩
/-- Both tell the same node and place. -/
theorem par_same {W w' : World} {l : List Gn} {E : Nat → Nat} (hE : GE l E) {a p q : Int} {e : Ending} (h : ParP W l a e w') (hr : RPar l a p q) : e = .returned (.tuple #[.int .i64 p, .int .i64 q]) ∧ W = w' := by
  obtain ⟨hW, h⟩ := h
  refine ⟨?_, hW⟩
  rcases h with ⟨h1, rfl⟩ | ⟨h1, h2, q1, j1, x, rfl, h3, h4, h5⟩
  · rcases hr with ⟨rfl, rfl, _⟩ | ⟨i, j, x, rfl, rfl, h2, h3⟩
    · rfl
    · obtain ⟨g0, g1, g2, _⟩ := hE.kid h2 h3
      exact absurd ⟨by omega, by omega⟩ h1
  · rcases hr with ⟨_, _, h6⟩ | ⟨i, j, y, rfl, rfl, h6, h7⟩
    · exact absurd (List.mem_of_getElem? h5) (h6 x (List.mem_of_getElem? h4))
    · obtain ⟨n, rfl⟩ : ∃ n : Nat, a = (n : Int) := ⟨a.toNat, by omega⟩
      obtain rfl : q1 = i := hE.one_parent h4 (List.mem_of_getElem? h5) h6 (List.mem_of_getElem? h7)
      rw [h4] at h6
      injection h6 with h6
      subst h6
      have up : ∀ (s t : Nat), s < t → x.kids[s]? = some (n : Int) → x.kids[t]? ≠ some (n : Int) := by
        intro s t hst hs ht
        obtain ⟨_, _, g2, g3, _⟩ := hE.kid h4 hs
        obtain ⟨v, hv⟩ : ∃ v, x.kids[s + 1]? = some v := ⟨_, List.getElem?_eq_getElem (by have := (List.getElem?_eq_some_iff.1 ht).1; omega)⟩
        have e1 := g3 v hv
        have e2 := hE.kids_up h4 t (s + 1) v (n : Int) (by omega) hv ht
        have e3 := (hE.lt g2).1
        omega
      have hj : j1 = j := by
        rcases Nat.lt_trichotomy j1 j with q | q | q
        · exact absurd h7 (up j1 j q h5)
        · exact q
        · exact absurd h5 (up j j1 q h7)
      rw [hj]
end Go.Proofs.Ytcddlconcngjlaa
