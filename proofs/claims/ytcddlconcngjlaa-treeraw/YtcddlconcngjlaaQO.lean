/- Chapter 13: the document's walk over a list, as a plain function; it is right where Valid says so. No program. · Chapter 13: the document's walk and ValidTree, of any list. · Chapter 13: rows of numbers that came in; at most so many numbers, in new memory (scholiumkeep.Copy, Cut). · The document's Move of a list of nodes of any kind: a copy, its Kids by so many more. · Chapter 13: the document's own: of a tree's node the size of what is below it (scholiumref08.Size), and how many collections stand in one another there (scholiumref08.DepthFrom). · Chapter 13: the document's Sub and Shift. · Chapter 13: a Kid counted anew in a list of our own; the document's Graft: its Kids counted anew. · Chapter 13: what the law TreeRaw wants besides: a node put behind a list of our own. -/
import Derived.Test.YtcddlconcngjlaaQM
import Derived.Test.YtcddlconcngjlaaQJ
import Derived.Test.YtcddlconcngjlaaQH
import Derived.Test.YtcddlconcngjlaaQN
set_option linter.unusedSimpArgs false
set_option linter.unusedVariables false
namespace Go.Proofs.Ytcddlconcngjlaa
open Go.RowKit
set_option linter.unusedVariables false
set_option linter.unusedSimpArgs false
set_option maxRecDepth 100000
def wkRow (g : Nat → Option Nat) : List Int → Nat → Option Nat
  | [], nx => some nx
  | k :: ks, nx => if k = (nx : Int) then (match g nx with
    | some e => wkRow g ks e
    | none => none) else none
/-- Where the tree from a node on ends; f: how deep it may go. -/
def wkF (l : List Gn) : Nat → Nat → Option Nat
  | 0, _ => none
  | f + 1, s => match l[s]? with
    | some x => if vBadF x.kind x.kids.length = true then none else wkRow (wkF l f) x.kids (s + 1)
    | none => none
theorem wkRow_imp {g g' : Nat → Option Nat} (hg : ∀ k e, g k = some e → k < e) : ∀ (ks : List Int) (nx e : Nat), (∀ k e, nx ≤ k → g k = some e → g' k = some e) → wkRow g ks nx = some e → wkRow g' ks nx = some e
  | [], nx, e, _, h => h
  | k :: ks, nx, e, hi, h => by
    rw [wkRow] at h ⊢
    split at h
    · rename_i hk
      rw [if_pos hk]
      cases hn : g nx with
      | none => rw [hn] at h; cases h
      | some m =>
        rw [hn] at h
        rw [hi nx m (Nat.le_refl _) hn]
        have := hg nx m hn
        exact wkRow_imp hg ks m e (fun k e h1 h2 => hi k e (by omega) h2) h
    · cases h
theorem wkRow_le {g : Nat → Option Nat} {n : Nat} (hg : ∀ k e, g k = some e → k < e ∧ e ≤ n) : ∀ (ks : List Int) (nx e : Nat), nx ≤ n → wkRow g ks nx = some e → nx ≤ e ∧ e ≤ n
  | [], nx, e, hn, h => by injection h with h; omega
  | k :: ks, nx, e, hn, h => by
    rw [wkRow] at h
    split at h
    · cases hm : g nx with
      | none => rw [hm] at h; cases h
      | some m =>
        rw [hm] at h
        have h1 := hg nx m hm
        have h2 := wkRow_le hg ks m e h1.2 h
        omega
    · cases h
theorem wkRow_visit {g : Nat → Option Nat} (hv : ∀ k e, g k = some e → ∀ i, k ≤ i → i < e → ∃ e', g i = some e') : ∀ (ks : List Int) (nx e : Nat), wkRow g ks nx = some e → ∀ i, nx ≤ i → i < e → ∃ e', g i = some e'
  | [], nx, e, h, i, h1, h2 => by injection h with h; omega
  | k :: ks, nx, e, h, i, h1, h2 => by
    rw [wkRow] at h
    split at h
    · cases hm : g nx with
      | none => rw [hm] at h; cases h
      | some m =>
        rw [hm] at h
        by_cases q : i < m
        · exact hv nx m hm i h1 q
        · exact wkRow_visit hv ks m e h i (by omega) h2
    · cases h
section
variable {l : List Gn}
theorem wkF_lt : ∀ (f s e : Nat), wkF l f s = some e → s < e ∧ e ≤ l.length
  | 0, s, e, h => by cases h
  | f + 1, s, e, h => by
    rw [wkF] at h
    split at h
    · rename_i x hx
      have hs := (List.getElem?_eq_some_iff.1 hx).1
      split at h
      · cases h
      · have := wkRow_le (fun k e => wkF_lt f k e) _ (s + 1) e hs h
        omega
    · cases h
theorem wkF_up : ∀ (f s e : Nat), wkF l f s = some e → wkF l (f + 1) s = some e
  | 0, s, e, h => by cases h
  | f + 1, s, e, h => by
    rw [wkF] at h ⊢
    split at h
    · rename_i x hx
      split at h
      · cases h
      · rename_i hb
        rw [if_neg hb]
        exact wkRow_imp (fun k e h => (wkF_lt f k e h).1) _ _ _ (fun k e _ h => wkF_up f k e h) h
    · cases h
theorem wkF_mono {f g s e : Nat} (hfg : f ≤ g) (h : wkF l f s = some e) : wkF l g s = some e := by
  induction hfg with
  | refl => exact h
  | step _ ih => exact wkF_up _ _ _ ih
theorem wkF_visit : ∀ (f s e : Nat), wkF l f s = some e → ∀ i, s ≤ i → i < e → ∃ e', wkF l f i = some e'
  | 0, s, e, h, _, _, _ => by cases h
  | f + 1, s, e, h, i, h1, h2 => by
    by_cases q : i = s
    · subst q; exact ⟨e, h⟩
    · rw [wkF] at h
      split at h
      · split at h
        · cases h
        · obtain ⟨e', he'⟩ := wkRow_visit (fun k e => wkF_visit f k e) _ _ _ h i (by omega) h2
          exact ⟨e', wkF_up _ _ _ he'⟩
      · cases h
theorem wkF_fix : ∀ (f s e : Nat), wkF l f s = some e → wkF l (l.length - s + 1) s = some e
  | 0, s, e, h => by cases h
  | f + 1, s, e, h => by
    have hse := wkF_lt (f + 1) s e h
    rw [wkF] at h ⊢
    split at h
    · rename_i x hx
      split at h
      · cases h
      · rename_i hb
        rw [if_neg hb]
        refine wkRow_imp (fun k e h => (wkF_lt f k e h).1) _ _ _ (fun k e hk h => ?_) h
        have h1 := wkF_lt f k e h
        exact wkF_mono (by omega) (wkF_fix f k e h)
    · cases h
/-- The ends from a place on are the walk's. -/
def WkI (l : List Gn) (t : Nat) (es : List Int) : Prop := es.length = l.length ∧ ∀ k, t ≤ k → k < l.length → ∃ e : Nat, es[k]? = some (e : Int) ∧ wkF l (l.length - k + 1) k = some e
theorem wk_row {t : Nat} {es : List Int} (h : WkI l (t + 1) es) : ∀ (ks : List Int) (nx : Nat), t + 1 ≤ nx → vEndG l.length es ks (nx : Int) = (wkRow (wkF l (l.length - t)) ks nx).map fun (e : Nat) => (e : Int)
  | [], nx, hn => rfl
  | k :: ks, nx, hn => by
    rw [vEndG, wkRow]
    by_cases hk : k = (nx : Int)
    · rw [if_pos hk]
      by_cases hl : nx < l.length
      · obtain ⟨e, he, hw⟩ := h.2 nx hn hl
        have hw2 : wkF l (l.length - t) nx = some e := wkF_mono (by omega) hw
        have hlt := wkF_lt _ _ _ hw
        rw [if_pos ⟨hk, by omega⟩, hw2, hk, Int.toNat_natCast, List.getD_eq_getElem?_getD, he, Option.getD_some]
        exact wk_row h ks e (by omega)
      · rw [if_neg (by omega)]
        have : wkF l (l.length - t) nx = none := by
          cases l.length - t with
          | zero => rfl
          | succ f => rw [wkF, List.getElem?_eq_none (by omega)]
        rw [this]
        rfl
    · rw [if_neg hk, if_neg (fun h => hk h.1)]
      rfl
theorem wk_go : ∀ (t : Nat) (es : List Int), t ≤ l.length → WkI l t es → (∃ es', vGo l t es = some es' ∧ WkI l 0 es') ∨ (vGo l t es = none ∧ ∃ i, i < l.length ∧ wkF l (l.length - i + 1) i = none)
  | 0, es, ht, h => .inl ⟨es, rfl, h⟩
  | t + 1, es, ht, h => by
    have hx : l[t]? = some l[t] := List.getElem?_eq_getElem (by omega)
    have hv : vEndF l.length es l[t].kind l[t].kids t = (wkF l (l.length - t + 1) t).map fun (e : Nat) => (e : Int) := by
      rw [wkF, hx]
      unfold vEndF
      by_cases hb : vBadF l[t].kind l[t].kids.length = true
      · simp only [hb, if_true]; rfl
      · simp only [hb]
        exact wk_row h _ _ (Nat.le_refl _)
    rw [vGo, hx]
    simp only [hv]
    cases hw : wkF l (l.length - t + 1) t with
    | none => exact .inr ⟨rfl, t, by omega, hw⟩
    | some e =>
      refine wk_go t _ (by omega) ⟨by rw [List.length_set]; exact h.1, fun k h1 h2 => ?_⟩
      by_cases hk : t = k
      · subst hk
        exact ⟨e, by rw [List.getElem?_set_self (by rw [h.1]; omega)], hw⟩
      · rw [List.getElem?_set_ne hk]
        exact h.2 k (by omega) h2
/-- A list is a tree if the walk from its first node ends where the list does. -/
theorem valid_wk (l : List Gn) : tValidF l = (decide (0 < l.length) && (wkF l (l.length + 1) 0 == some l.length)) := by
  unfold tValidF
  rcases wk_go (l := l) l.length (List.replicate l.length 0) (Nat.le_refl _) ⟨by simp, fun k h1 h2 => by omega⟩ with ⟨es, h1, h2⟩ | ⟨h1, i, h2, h3⟩
  · rw [h1]
    show (decide (0 < l.length) && (es.getD 0 0 == (l.length : Int))) = _
    by_cases h0 : 0 < l.length
    · obtain ⟨e, he, hw⟩ := h2.2 0 (Nat.le_refl _) h0
      rw [Nat.sub_zero] at hw
      rw [hw, List.getD_eq_getElem?_getD, he, Option.getD_some]
      by_cases q : e = l.length
      · rw [q]; simp
      · have q1 : ((e : Int) == (l.length : Int)) = false := by rw [beq_eq_false_iff_ne]; omega
        have q2 : (some e == some l.length) = false := by rw [beq_eq_false_iff_ne]; intro h; injection h with h; exact q h
        rw [q1, q2]
    · simp [h0]
  · rw [h1]
    show false = _
    by_cases q : wkF l (l.length + 1) 0 = some l.length
    · obtain ⟨e', he'⟩ := wkF_visit _ _ _ q i (Nat.zero_le _) h2
      rw [wkF_fix _ _ _ he'] at h3
      cases h3
    · have q2 : (wkF l (l.length + 1) 0 == some l.length) = false := by rw [beq_eq_false_iff_ne]; exact q
      rw [q2, Bool.and_false]
end
def wkR : Option Nat → Ending
  | some e => .returned (.int .i64 (e : Int))
  | none => .returned (.int .i64 (-1))
theorem wkRow_drop {g : Nat → Option Nat} {ks : List Int} {j nx : Nat} {k : Int} (h : ks[j]? = some k) : wkRow g (ks.drop j) nx = if k = (nx : Int) then (match g nx with
    | some e => wkRow g (ks.drop (j + 1)) e
    | none => none) else none := by
  have hj := (List.getElem?_eq_some_iff.1 h).1
  rw [List.drop_eq_getElem_cons hj, wkRow]
  have : ks[j] = k := by rw [List.getElem?_eq_getElem hj] at h; injection h
  rw [this]
  all_goals
    by_cases q : k = (nx : Int)
    · rw [if_pos q, if_pos q]
      cases g nx <;> rfl
    · rw [if_neg q, if_neg q]
set_option maxHeartbeats 16000000 in
theorem rwalk_at {W0 : World} {A : Option Addr} {n cap : Nat} {l : List Gn} (hL : GL W0 A n cap l) (hk : ∀ x ∈ l, x.kids.length ≤ 1000000) (hn : n ≤ 1000000) :
    ∀ (f s dep : Nat) (W : World), Below W0.heap.size W0 W → n < f + s → s ≤ n → dep ≤ s → Calls Try.prog 56 #[.slice A n cap, .int .i64 (s : Int), .int .i64 (dep : Int)] W fun e w' => e = wkR (wkF l f s) ∧ Below W.heap.size W w' := by
  intro f
  induction f with
  | zero => intro s dep W hW h1 h2; omega
  | succ f ih =>
    intro s dep W hW hf hs hd
    have hle := hL.le
    have hmx := hL.max
    have hll := hL.len
    by_cases hsn : s = n
    · have hw : wkF l (f + 1) s = none := by rw [wkF, List.getElem?_eq_none (by omega)]
      rw [hw]
      have d1 : (n : Int) ≤ (s : Int) := by omega
      clear ih hL hk hll
      go_enter Try.func56, Try.ntmps56
      go_wp2_with fail
      go_ret
      exact ⟨rfl, Below.refl _ _⟩
    · have hsl : s < n := by omega
      obtain ⟨x, hx⟩ : ∃ x, l[s]? = some x := ⟨_, List.getElem?_eq_getElem (by rw [hll]; exact hsl)⟩
      have hkn := hk x (List.mem_of_getElem? hx)
      obtain ⟨r, hr⟩ : ∃ z, wkF l (f + 1) s = z := ⟨_, rfl⟩
      have hr2 := hr
      rw [wkF, hx] at hr2
      obtain ⟨g, o, rfl, K, c, k1, k2, _, hrd, hc⟩ := (hL.below hW).at_ s x hx
      obtain ⟨kl, hkl⟩ : ∃ z, x.kids.length = z := ⟨_, rfl⟩
      rw [hkl] at hc k1 hkn
      simp only [hkl] at hr2
      obtain ⟨kd, hkd⟩ : ∃ z, x.kind = z := ⟨_, rfl⟩
      obtain ⟨ks, hks⟩ : ∃ z, x.kids = z := ⟨_, rfl⟩
      rw [hks] at hrd hkl hr2
      rw [hkd] at hr2
      rw [hr]
      have y0 := hc 0 _ rfl
      have y1 := hc 1 _ rfl
      have y2 := hc 2 _ rfl
      have y3 := hc 3 _ rfl
      have y4 := hc 4 _ rfl
      have y5 := hc 5 _ rfl
      have y6 := hc 6 _ rfl
      have y7 := hc 7 _ rfl
      have y8 := hc 8 _ rfl
      have y9 := hc 9 _ rfl
      rw [hkd] at y0
      simp only [Nat.add_zero] at y0
      have d1 : ¬ (n : Int) ≤ (s : Int) := by omega
      have d2 : ¬ (n : Int) < (dep : Int) := by omega
      have di : (s : Int) < (n : Int) := by omega
      have HR := Lib.hid (And.intro hr2 (And.intro hrd hkl))
      have IH := Lib.hid ih
      have HW := Lib.hid hW
      have HLL := Lib.hid hll
      clear hL hx hr hr2 hrd hc hkd hks hkl hk ih hW hll
      go_enter Try.func56, Try.ntmps56
      go_upto_region 4 with fail
      obtain ⟨V1, hV1⟩ : ∃ z, W.alloc (.cells #[.int .i64 kd, .int .i64 x.style, .string x.tag, .string x.anchor, .string x.value, .int .i64 x.st, .int .i64 x.en, .int .i64 x.hd, .int .i64 x.mr, .slice K kl c] 41) = z := ⟨_, rfl⟩
      obtain ⟨gx, hgx⟩ : ∃ z, W.heap.size = z := ⟨_, rfl⟩
      have hb1 : Below W.heap.size W V1 := by rw [← hV1]; exact (Below.refl _ _).alloc (Nat.le_refl _) _
      have xb : ∀ (j : Nat) (u : Value), #[Value.int .i64 kd, .int .i64 x.style, .string x.tag, .string x.anchor, .string x.value, .int .i64 x.st, .int .i64 x.en, .int .i64 x.hd, .int .i64 x.mr, .slice K kl c][j]? = some u → V1.cell? ⟨gx, j, none⟩ = some u := fun j u hj => by rw [← hV1, ← hgx, World.cell?_alloc_mark]; exact hj
      rw [hV1, hgx]
      have HB1 := Lib.hid hb1
      clear hV1 hgx hb1 y0 y1 y2 y3 y4 y5 y6 y7 y8 y9
      have z0 := xb 0 _ rfl
      have z9 := xb 9 _ rfl
      clear xb
      go_cut [50] from 25 to 50 (fun v U => v = .bool (vBadF kd kl) ∧ U = V1)
      case first =>
        by_cases h0 : kl = 0
        · have d0 : ¬ (0 : Int) < (kl : Int) := by omega
          subst h0
          simp only [show ((0 : Nat) : Int) = 0 from rfl] at d0 z9 ⊢
          have hb : vBadF kd 0 = false := by unfold vBadF; simp
          by_cases hk3 : kd = 3
          · subst hk3
            go_wp2_with fail
            go_meet
            exact ⟨by rw [hb], rfl⟩
          · have e3 : (kd == 3) = false := beq_eq_false_iff_ne.2 hk3
            go_wp2_with fail
            go_meet
            exact ⟨by rw [hb], rfl⟩
        · have d0 : (0 : Int) < (kl : Int) := by omega
          have d0' : 0 < kl := by omega
          by_cases hk3 : kd = 3
          · subst hk3
            by_cases hev : kl % 2 = 0
            · have hb : vBadF 3 kl = false := by unfold vBadF; simp [hev]
              have hev2 : Int.tmod (kl : Int) 2 = 0 := by rw [Int.tmod_eq_emod_of_nonneg (by omega)]; omega
              have HBF := Lib.hid hb
              clear hb
              go_wp2_with fail
              go_meet
              exact ⟨by rw [HBF.out], rfl⟩
            · have hb : vBadF 3 kl = true := by unfold vBadF; simp; omega
              have hev2 : Int.tmod (kl : Int) 2 = 1 := by rw [Int.tmod_eq_emod_of_nonneg (by omega)]; omega
              have HBF := Lib.hid hb
              clear hb
              go_wp2_with fail
              go_meet
              exact ⟨by rw [HBF.out], rfl⟩
          · have e3 : (kd == 3) = false := beq_eq_false_iff_ne.2 hk3
            have f3 : (kd != 3) = true := bne_iff_ne.2 hk3
            by_cases hk2 : kd = 2
            · subst hk2
              have hb : vBadF 2 kl = false := by unfold vBadF; simp
              have HBF := Lib.hid hb
              clear hb
              go_wp2_with fail
              go_meet
              exact ⟨by rw [HBF.out], rfl⟩
            · have e2 : (kd == 2) = false := beq_eq_false_iff_ne.2 hk2
              have f2 : (kd != 2) = true := bne_iff_ne.2 hk2
              have hb : vBadF kd kl = true := by unfold vBadF; rw [e2, e3]; simp [d0']
              have HBF := Lib.hid hb
              clear hb e2 e3
              go_wp2_with fail
              go_meet
              exact ⟨by rw [HBF.out], rfl⟩
      case rest =>
        obtain ⟨rfl, rfl⟩ := hcut
        obtain ⟨V2, hV2⟩ : ∃ z, z = wc := ⟨_, rfl⟩
        subst hV2
        cases hb : vBadF kd kl with
        | true =>
          have hr : r = none := by have := HR.out.1; rw [if_pos hb] at this; exact this.symm
          subst hr
          go_wp2_with fail
          go_ret
          exact ⟨rfl, HB1.out⟩
        | false =>
          have hr : wkRow (wkF l f) ks (s + 1) = r := by have := HR.out.1; rw [if_neg (by rw [hb]; decide)] at this; exact this
          have HRR := Lib.hid hr
          clear hr
          go_wp2_with fail
          go_loopw [8, 56] (fun q i U => ∃ (j nx : Nat), j ≤ kl ∧ q = .int .i64 (nx : Int) ∧ i = .int .i64 (j : Int) ∧ s < nx ∧ nx ≤ n ∧ Hid (wkRow (wkF l f) (ks.drop j) nx = r) ∧ Hid (Below V2.heap.size V2 U)) (fun _ i _ => kl - (intOf i).toNat)
          case atStart => exact ⟨0, s + 1, Nat.zero_le _, by go_num, rfl, by omega, by omega, HRR.out, Below.refl _ _⟩
          case round =>
            obtain ⟨j, nx, hj, rfl, rfl, hnx, hnx2, HQ, HU⟩ := hrel
            obtain ⟨U, hU⟩ : ∃ z, z = wr := ⟨_, rfl⟩
            subst hU
            by_cases hlt : j < kl
            · have dj : (j : Int) < (kl : Int) := by omega
              have hkl := HR.out.2.2
              obtain ⟨k, hz⟩ : ∃ z, ks[j]? = some z := ⟨ks[j]'(by rw [hkl]; exact hlt), List.getElem?_eq_getElem _⟩
              have hq := HQ.out
              rw [wkRow_drop hz] at hq
              obtain ⟨bk, ok, rfl, hkc⟩ := HR.out.2.1.addr (by rw [ki_len, hkl]; omega)
              have ckk : U.cell? ⟨bk, ok + j, none⟩ = some (.int .i64 k) := cell_keep (below_step HB1.out HU.out) (hkc j _ (ki_at hz))
              clear hz hkc hkl
              by_cases hka : k = (nx : Int)
              · subst hka
                rw [if_pos rfl] at hq
                have CI := Lib.hid (IH.out nx (dep + 1) U (below_step HW.out (below_step HB1.out HU.out)) (by omega) hnx2 (by omega))
                have hneq : ((nx : Int) != (nx : Int)) = false := bne_self_eq_false _
                have w3 : IntKind.i64.wrap ((dep : Int) + 1) = ((dep + 1 : Nat) : Int) := by rw [IntWalk.i64_in _ (by omega)]; omega
                cases hm : wkF l f nx with
                | none =>
                  rw [hm] at hq CI
                  have hr : r = none := hq.symm
                  subst hr
                  clear hq HQ
                  go_wp2_with fail
                  refine CI.out.mono ?_
                  clear CI
                  rintro e U2 ⟨rfl, hb2⟩
                  have HB2 := Lib.hid hb2
                  clear hb2
                  simp only [wkR]
                  go_wp2_with fail
                  go_ret
                  exact ⟨rfl, below_step HB1.out (below_step HU.out HB2.out)⟩
                | some m =>
                  have hml := wkF_lt _ _ _ hm
                  rw [hm] at hq CI
                  have HQ2 := Lib.hid hq
                  have hm1 : nx < m := hml.1
                  have hm2 : Hid (m ≤ n) := by show m ≤ n; have := HLL.out; omega
                  clear hq HQ hm hml
                  go_wp2_with fail
                  refine CI.out.mono ?_
                  clear CI
                  rintro e U2 ⟨rfl, hb2⟩
                  have HB2 := Lib.hid hb2
                  clear hb2
                  simp only [wkR]
                  have dm : ¬ ((m : Int) < 0) := by omega
                  go_wp2_with fail
                  go_roundw
                  case rel => exact ⟨j + 1, m, by omega, rfl, by go_num, by omega, hm2.out, HQ2.out, below_step HU.out HB2.out⟩
                  case measure => simp [intOf]; omega
              · rw [if_neg hka] at hq
                subst hq
                have hne : (k != (nx : Int)) = true := bne_iff_ne.2 hka
                go_wp2_with fail
                go_ret
                exact ⟨rfl, below_step HB1.out HU.out⟩
            · obtain rfl : j = kl := by omega
              have hr : r = some nx := by
                have := HQ.out
                rw [List.drop_of_length_le (by rw [HR.out.2.2]; exact Nat.le_refl _), wkRow] at this
                exact this.symm
              subst hr
              go_wp2_with fail
              go_ret
              exact ⟨rfl, below_step HB1.out HU.out⟩
set_option maxHeartbeats 1000000 in
theorem rvalid_at {W : World} {A : Option Addr} {n cap : Nat} {l : List Gn} (hL : GL W A n cap l) (hk : ∀ x ∈ l, x.kids.length ≤ 1000000) (hn : n ≤ 1000000) :
    Calls Try.prog 26 #[.slice A n cap] W fun e w' => e = .returned (.bool (tValidF l)) ∧ Below W.heap.size W w' := by
  rw [valid_wk l, hL.len]
  by_cases h0 : n = 0
  · subst h0
    clear hL hk
    go_enter Try.func26, Try.ntmps26
    go_wp2_with fail
    go_ret
    exact ⟨by simp, Below.refl _ _⟩
  · have C := Lib.hid (rwalk_at hL hk hn (n + 1) 0 0 W (Below.refl _ _) (by omega) (by omega) (Nat.le_refl _))
    have d0 : (0 : Int) < (n : Int) := by omega
    have d1 : decide (0 < n) = true := decide_eq_true (by omega)
    rw [d1, Bool.true_and]
    clear hL hk
    cases hw : wkF l (n + 1) 0 with
    | none =>
      rw [hw] at C
      have d2 : ((-1 : Int) == (n : Int)) = false := by rw [beq_eq_false_iff_ne]; omega
      go_enter Try.func26, Try.ntmps26
      go_wp2_with fail
      refine C.out.mono ?_
      clear C
      rintro e U2 ⟨rfl, hb2⟩
      have HB2 := Lib.hid hb2
      clear hb2
      simp only [wkR]
      go_wp2_with fail
      go_ret
      exact ⟨rfl, HB2.out⟩
    | some m =>
      rw [hw] at C
      have d2 : ((m : Int) == (n : Int)) = (some m == some n) := by
        by_cases q : m = n
        · subst q; simp
        · have q1 : ((m : Int) == (n : Int)) = false := by rw [beq_eq_false_iff_ne]; omega
          have q2 : (some m == some n) = false := by rw [beq_eq_false_iff_ne]; intro h; injection h with h; exact q h
          rw [q1, q2]
      have D2 := Lib.hid d2
      clear d2
      go_enter Try.func26, Try.ntmps26
      go_wp2_with fail
      refine C.out.mono ?_
      clear C
      rintro e U2 ⟨rfl, hb2⟩
      have HB2 := Lib.hid hb2
      clear hb2
      simp only [wkR]
      go_wp2_with fail
      go_ret
      exact ⟨by rw [← D2.out]; rfl, HB2.out⟩
open Go.RowKit Go.ChangeShapes Go.WideShapes Go.Deep
def NewI (W : World) (ks : List Int) (e : Ending) (w' : World) : Prop := ∃ A n c, e = .returned (.slice A n c) ∧ ks.length = n ∧ w'.ownsRow W.heap.size 3 1 (.slice A n c) n (ki ks) ∧ Below W.heap.size W w'
set_option maxHeartbeats 1000000 in
theorem kcopyI_at (A : Option Addr) (n c : Nat) (ks : List Int) (W : World) (hl : ks.length = n) (hn : n ≤ 1000000) (hr : RdC W A (ki ks)) :
    Calls Try.prog 55 #[.slice A n c] W (NewI W ks) := by
  obtain ⟨v1, W1, hrun, ho, hg, hv⟩ := run_append_rows Try.underlying22 int_info rfl (by omega) (by omega) W W.heap.size (.slice none 0 0) 0 [] (own_nil _ _ _ _) (Nat.le_refl _) A n c (ki ks) (by rw [ki_len]; omega) hr (ki_one ks) (by omega)
  rw [Nat.zero_add, List.nil_append] at ho
  have hb : Below W.heap.size W W1 := (Below.refl _ _).grown hg (Nat.le_refl _) (fun k hk => by cases hk)
  obtain ⟨A', c', rfl, _⟩ := own_form ho
  have HRUN := Lib.hid hrun
  have HO := Lib.hid (And.intro hl (And.intro ho hb))
  clear ho hg hv hr hrun hb hl
  go_enter Try.func55, Try.ntmps55
  go_wp2_with (at_builtin; refine wpList_append_known rfl (.const (.slice none 0 0)) (.tmp 3) 22 rfl (.slice none 0 0) (.slice A n c) _ _ rfl rfl HRUN.out ?_)
  go_ret
  exact ⟨A', n, c', rfl, HO.out⟩
set_option maxHeartbeats 1000000 in
theorem kcutI_at (A : Option Addr) (n c : Nat) (ks : List Int) (W : World) (hl : ks.length = n) (hnc : n ≤ c) (hc : c ≤ 9223372036854775807) (hr : RdC W A (ki ks)) (hA : A = none → c = 0) :
    Calls Try.prog 24 #[.slice A n c, .int .i64 4] W (NewI W (ks.take 4)) := by
  have hr' : RdC W A (ki (ks.take 4)) := by
    have := hr.take 4
    rwa [show (ki ks).take 4 = ki (ks.take 4) by simp [ki, List.map_take]] at this
  have HR := Lib.hid hr'
  have HL := Lib.hid hl
  clear hr hr' hl
  cases A with
  | none =>
    obtain rfl : c = 0 := hA rfl
    obtain rfl : n = 0 := by omega
    have h0 : ks.take 4 = [] := List.eq_nil_of_length_eq_zero (by rw [List.length_take, HL.out]; omega)
    rw [h0] at HR ⊢
    clear h0 hA
    go_enter Try.func24, Try.ntmps24
    go_wp2_with fail
    refine (kcopyI_at none 0 0 [] W rfl (by omega) HR.out).mono ?_
    rintro e w' ⟨A', n', cap', rfl, h1, h2⟩
    have H := Lib.hid (And.intro h1 h2)
    clear h1 h2
    go_wp2
    go_ret
    exact ⟨A', n', cap', rfl, H.out⟩
  | some ad =>
    by_cases hkn : 4 < n
    · clear hA
      have d1 : ¬ (n : Int) < 4 := by omega
      have d2 : (4 : Int) < (n : Int) := by omega
      go_enter Try.func24, Try.ntmps24
      go_wp2_with fail
      refine (kcopyI_at (some ad) 4 c (ks.take 4) W (by rw [List.length_take, HL.out]; omega) (by omega) HR.out).mono ?_
      rintro e w' ⟨A', n', cap', rfl, h1, h2⟩
      have H := Lib.hid (And.intro h1 h2)
      clear h1 h2
      go_wp2
      go_ret
      exact ⟨A', n', cap', rfl, H.out⟩
    · clear hA
      go_enter Try.func24, Try.ntmps24
      go_wp2_with fail
      refine (kcopyI_at (some ad) n c (ks.take 4) W (by rw [List.length_take, HL.out]; omega) (by omega) HR.out).mono ?_
      rintro e w' ⟨A', n', cap', rfl, h1, h2⟩
      have H := Lib.hid (And.intro h1 h2)
      clear h1 h2
      go_wp2
      go_ret
      exact ⟨A', n', cap', rfl, H.out⟩
theorem irow_cells : Try.prog.cellsOf 22 = 1 := by kernel_rfl
/-- What a slice of rows of numbers is to a walk. -/
def IsIRows (w : World) (a : Option Addr) (len cap : Nat) (l : List Nat) : Prop := len ≤ cap ∧ cap ≤ 9223372036854775807 ∧ ∀ i, i < len → ∃ b off, a = some ⟨b, off, none⟩ ∧ ∃ A n c, w.cell? ⟨b, off + i, none⟩ = some (.slice A n c) ∧ n ≤ c ∧ c ≤ 9223372036854775807 ∧ (A = none → c = 0) ∧ ∃ zs : List Int, zs.length = n ∧ RdC w A (ki zs)
theorem open_irows {H : Type} {enc : TypeId × Value → H} {w : World} {base : Nat} {spare : Nat → Bool} {held : Bool} {a : Option Addr} {len cap : Nat} {d : DataW H} {p : List MemPlace}
    (h : DataW.Trod enc Try.prog w base spare held 39 (.slice a len cap) d p) : ∃ l, IsIRows w a len cap l := by
  obtain ⟨fuel, hf⟩ := h
  rcases open_slice1 Try.underlying39 irow_cells hf with ⟨hcs, _⟩ | ⟨x, l', c', m, n, V, D, Pl, hcs, hb, hl, hm, hmm, hx, hi⟩
  · simp [Value.cells] at hcs
    obtain ⟨rfl, rfl, rfl⟩ := hcs
    exact ⟨[], Nat.le_refl _, by omega, fun i hi => by omega⟩
  · simp [Value.cells] at hcs
    obtain ⟨rfl, rfl, rfl⟩ := hcs
    have hlm : len ≤ m := by rw [hmm]; split <;> omega
    unfold maxLen at hm
    refine ⟨[], hl, by omega, fun i hil => ?_⟩
    obtain ⟨hc, ht⟩ := hi i (by omega)
    obtain ⟨b, off, spot⟩ := x
    have hspot : spot = none := by simpa [Addr.add] using World.cell?_spot (hi 0 (by omega)).1
    subst hspot
    rw [add_plain] at hc
    refine ⟨b, off, rfl, ?_⟩
    rcases open_ints Try.underlying22 Try.underlying3 (by kernel_rfl) ht with ⟨hcs, _⟩ | ⟨y, ln, cp, zs, hcs, _, hl2, hm2, hz, _, hcell, hwz⟩
    · simp at hcs
      rw [hcs] at hc
      exact ⟨none, 0, 0, hc, Nat.le_refl _, by omega, fun _ => rfl, [], rfl, RdC.nil _ _⟩
    · simp at hcs
      rw [hcs] at hc
      unfold maxLen at hm2
      have hlz : ln ≤ zs.length := by rw [hz]; split <;> omega
      refine ⟨some y, ln, cp, hc, hl2, by omega, fun h => (by cases h), zs.take ln, by rw [List.length_take]; omega, fun k v hk => ?_⟩
      rw [ki, List.getElem?_map, List.getElem?_take] at hk
      split at hk
      · rename_i hkl
        have hk' : k < zs.length := by omega
        have hc0 := hcell 0 (by omega)
        have hck := hcell k hk'
        obtain ⟨b2, off2, spot2⟩ := y
        have hspot2 : spot2 = none := by simpa [Addr.add] using World.cell?_spot hc0
        subst hspot2
        rw [add_plain] at hck
        rw [List.getElem?_eq_getElem hk'] at hk
        simp only [Option.map_some, Option.some.injEq] at hk
        subst hk
        refine ⟨b2, off2, rfl, ?_⟩
        rw [hck]
        simp [List.getD, hk']
      · simp at hk
set_option maxHeartbeats 8000000 in
theorem gmove_at {W : World} {A : Option Addr} {n cap : Nat} {d : Int} {l : List Gn} (hL : GL W A n cap l) (hS : Small l) (hn : n ≤ 1000000) (hd : -1000000000 ≤ d) (hd2 : d ≤ 1000000000) :
    Calls Try.prog 25 #[.slice A n cap, .int .i64 d] W (NewG W (l.map (Gn.mapK (· + d)))) := by
  obtain ⟨L, hLl, hLn, hrd, hks⟩ := hL.gk
  have hle := hL.le
  have hmx := hL.max
  have hone : ∀ u ∈ gksC L, u.oneCell' = true := by
    intro u hu
    obtain ⟨p, hp, hu⟩ := List.mem_flatMap.1 hu
    obtain ⟨i, hi⟩ := List.mem_iff_getElem?.1 hp
    obtain ⟨K, c, e, _⟩ := hks i p hi
    simp only [gkC, gnC, List.mem_cons, List.not_mem_nil, or_false] at hu
    rcases hu with rfl | rfl | rfl | rfl | rfl | rfl | rfl | rfl | rfl | rfl
    all_goals first | rfl | (rw [e]; rfl)
  obtain ⟨v1, W1, hrun, hown, hg, hv⟩ := run_append_rows Try.underlying26 node_info rfl (by omega) (by omega) W W.heap.size (.slice none 0 0) 0 [] (own_nil _ _ _ _) (Nat.le_refl _) A n cap (gksC L) (by rw [gksC_len, hLn]) hrd hone (by omega)
  rw [Nat.zero_add, List.nil_append] at hown
  have hb1 : Below W.heap.size W W1 := (Below.refl _ _).grown hg (Nat.le_refl _) (fun k hk => by cases hk)
  obtain ⟨A2, cap2, rfl, m1, m2, _⟩ := own_form hown
  have HRUN := Lib.hid hrun
  have HB1 := Lib.hid hb1
  have HROW := Lib.hid hown
  have HK := Lib.hid hks
  have HS : Hid (∀ (i : Nat) (p : GK), L[i]? = some p → p.1.kids.length ≤ 1000000 ∧ ∀ k ∈ p.1.kids, -4611686018427387904 ≤ k ∧ k ≤ 4611686018427387904) := fun i p hp => hS p.1 (by rw [← hLl]; exact List.mem_map.2 ⟨p, List.mem_of_getElem? hp, rfl⟩)
  have HRD := Lib.hid hrd
  have HLL := Lib.hid hLl
  have HLN := Lib.hid hLn
  clear hrd hks hone hL hS hLl hLn hrun hown hg hv hb1
  go_enter Try.func25, Try.ntmps25
  go_wp2_with (at_builtin; refine wpList_append_known rfl (.const (.slice none 0 0)) (.tmp 9) 26 rfl (.slice none 0 0) (.slice A n cap) _ W1 rfl rfl HRUN.out ?_)
  go_loopw [13] (fun q V => ∃ (t : Nat) (P : List GK), t ≤ n ∧ q = .int .i64 (t : Int) ∧ Hid (Cpy W.heap.size V (.slice A2 n cap2) L (· + d) t P ∧ Below W.heap.size W V)) (fun q _ => n - (intOf q).toNat)
  case atStart => exact ⟨0, L, Nat.zero_le _, rfl, Cpy.start (by rw [HLN.out]; exact HROW.out), HB1.out⟩
  case round =>
    obtain ⟨t, P, ht, rfl, HQ⟩ := hrel
    obtain ⟨V, hV⟩ : ∃ z, z = wr := ⟨_, rfl⟩
    subst hV
    by_cases hlt : t < n
    · have dt : (t : Int) < (n : Int) := by omega
      obtain ⟨g2, rfl, hg2, hg2V⟩ := row_addr (HLN.out ▸ HQ.out.1.row) (by omega)
      obtain ⟨x, hx⟩ : ∃ x, L[t]? = some x := ⟨L[t]'(by rw [HLN.out]; omega), List.getElem?_eq_getElem _⟩
      obtain ⟨K, c, ek, k1, k2, k3, hkr⟩ := HK.out t x hx
      have y9 : V.cell? ⟨g2, t * 10 + 9, none⟩ = some (.slice K x.1.kids.length c) := by
        have hr := HQ.out.1.row
        rw [HLN.out] at hr
        have hPt : P[t]? = some x := by rw [HQ.out.1.rest t (Nat.le_refl _)]; exact hx
        rw [hr.cellAt _ (by omega), gksC_at P t 9 x hPt (by omega), ← ek]
        rfl
      obtain ⟨s1, s2⟩ := HS.out t x hx
      obtain ⟨ks, hks⟩ : ∃ z, x.1.kids = z := ⟨_, rfl⟩
      obtain ⟨kl, hkl⟩ : ∃ z, ks.length = z := ⟨_, rfl⟩
      rw [hks, hkl] at y9
      rw [hks] at hkr s1 s2 k1
      rw [hkl] at s1 k1
      obtain ⟨kv, V1, hrun1, hown1, hg1, hv1⟩ := run_append_rows Try.underlying22 int_info rfl (by omega) (by omega) V V.heap.size (.slice none 0 0) 0 [] (own_nil _ _ _ _) (Nat.le_refl _) K kl c (ki ks) (by rw [ki_len, hkl]; omega) (hkr.below HQ.out.2) (ki_one ks) (by omega)
      rw [Nat.zero_add, List.nil_append] at hown1
      have hbV : Below V.heap.size V V1 := (Below.refl _ _).grown hg1 (Nat.le_refl _) (fun k hk => by cases hk)
      obtain ⟨K2, c2, rfl, n1, n2, _⟩ := own_form hown1
      have HX := Lib.hid (And.intro hx (And.intro hks (And.intro hkl s2)))
      have HI := Lib.hid (And.intro hown1 hbV)
      have HRUN1 := Lib.hid hrun1
      have hz2 : V.frozen? ⟨g2, t * 10 + 9, none⟩ = false := (HLN.out ▸ HQ.out.1.row).frozenAt _
      clear hkr hx ek k3 hks hkl s2 hrun1 hown1 hg1 hv1 hbV
      go_wp2_with (at_builtin; refine wpList_append_known rfl (.const (.slice none 0 0)) (.tmp 20) 22 rfl (.slice none 0 0) (.slice K kl c) _ V1 rfl rfl HRUN1.out ?_)
      clear y9
      go_loopw [24] (fun q V2 => ∃ j : Nat, j ≤ kl ∧ q = .int .i64 (j : Int) ∧ Hid (V2.ownsRow V.heap.size 3 1 (.slice K2 kl c2) kl (ki (mixK (· + d) ks j)) ∧ Below V.heap.size V V2)) (fun q _ => kl - (intOf q).toNat)
      case atStart => exact ⟨0, Nat.zero_le _, rfl, by rw [mixK_zero]; exact HI.out.1, HI.out.2⟩
      case round =>
        obtain ⟨j, hj, rfl, HJ⟩ := hrel
        obtain ⟨V2, hV2⟩ : ∃ z, z = wr := ⟨_, rfl⟩
        subst hV2
        by_cases hjl : j < kl
        · have dj : (j : Int) < (kl : Int) := by omega
          obtain ⟨kb, rfl, hkb, hkb2⟩ := row_addr HJ.out.1 (by omega)
          obtain ⟨k, hk⟩ : ∃ z, ks[j]? = some z := ⟨ks[j]'(by rw [HX.out.2.2.1]; omega), List.getElem?_eq_getElem _⟩
          obtain ⟨b1, b2⟩ := HX.out.2.2.2 k (List.mem_of_getElem? hk)
          have ck : V2.cell? ⟨kb, j, none⟩ = some (.int .i64 k) := by rw [HJ.out.1.cellAt _ (by omega), ki_at (mixK_at hk)]
          have fz := HJ.out.1.frozenAt j
          have hw : IntKind.i64.wrap (k + d) = k + d := IntWalk.i64_in _ (by omega)
          have HN : Hid ((V2.setCell ⟨kb, j, none⟩ (.int .i64 (k + d))).ownsRow V.heap.size 3 1 (.slice (some ⟨kb, 0, none⟩) kl c2) kl (ki (mixK (· + d) ks (j + 1))) ∧ Below V.heap.size V (V2.setCell ⟨kb, j, none⟩ (.int .i64 (k + d)))) := by
            refine ⟨?_, HJ.out.2.setCell (p := ⟨kb, j, none⟩) hkb _⟩
            rw [← mixK_step hk]
            exact (HJ.out.1.stored j _).1
          clear hk
          go_wp2_with fail
          go_roundw
          case rel => exact ⟨j + 1, by omega, by go_num, HN.out⟩
          case measure => simp [intOf]; omega
        · obtain rfl : j = kl := by omega
          have z2 : V2.frozen? ⟨g2, t * 10 + 9, none⟩ = false := (HLN.out ▸ (HQ.out.1.below HJ.out.2).row).frozenAt _
          have z3 : V2.cell? ⟨g2, t * 10 + 9, none⟩ = some x.2 := by
            have hq := HQ.out.1.below HJ.out.2
            have hPt : P[t]? = some x := by rw [hq.rest t (Nat.le_refl _)]; exact HX.out.1
            have hr := hq.row
            rw [HLN.out] at hr
            rw [hr.cellAt _ (by omega), gksC_at P t 9 x hPt (by omega)]
            rfl
          have HN : Hid (Cpy W.heap.size (V2.setCell ⟨g2, t * 10 + 9, none⟩ (.slice K2 j c2)) (.slice (some ⟨g2, 0, none⟩) n cap2) L (· + d) (t + 1) (P.set t (x.1.mapK (· + d), .slice K2 j c2)) ∧ Below W.heap.size W (V2.setCell ⟨g2, t * 10 + 9, none⟩ (.slice K2 j c2))) := by
            have hx := HX.out
            have hW : W.heap.size ≤ V.heap.size := HQ.out.2.size
            refine ⟨?_, (below_step HQ.out.2 HJ.out.2).setCell (p := ⟨g2, t * 10 + 9, none⟩) hg2 _⟩
            have hq := HQ.out.1
            have hm : mixK (· + d) ks j = ks.map (· + d) := by rw [← hx.2.2.1]; exact mixK_all _ _
            have hr := HJ.out.1
            rw [hm] at hr
            have hst := Cpy.step (V2 := V2) (kv := .slice K2 j c2) (cap := cap2) (g := g2) (i := t) (x := x) (l := L) (P := P) (f := (· + d)) (by rw [HLN.out]; exact hq) hx.1 HJ.out.2 hW (by rw [hx.2.1, hx.2.2.1]; exact hr)
            rw [HLN.out] at hst
            exact hst
          go_wp2_with fail
          first
          | exact ⟨⟨t + 1, _, by omega, by go_num, HN.out⟩, by simp [intOf]; omega⟩
          | (repeat apply Exists.intro
             exact ⟨⟨t + 1, _, by omega, by go_num, HN.out⟩, by simp [intOf]; omega⟩)
    · obtain rfl : t = n := by omega
      go_wp2_with fail
      go_ret
      obtain ⟨q1, q2⟩ := HQ.out.1.end_ HLN.out
      exact ⟨A2, t, cap2, P, rfl, m1, m2, q1, by rw [HQ.out.1.len]; exact HLN.out, by rw [q2, HLL.out], HQ.out.2⟩
section
variable {l : List Gn} {E : Nat → Nat} {a : Nat} {x : Gn}
end
section
variable {W : World} {g cap n : Nat} {l : List Gn} {E : Nat → Nat}
end
theorem map_zero (l : List Gn) : l.map (Gn.mapK (· + (0 : Int))) = l := by
  have : (fun k : Int => k + 0) = (fun k => k) := by funext k; omega
  rw [this]
  exact (List.map_congr_left fun x _ => mapK_id x).trans (List.map_id l)
theorem set_same {α : Type} {l : List α} {j : Nat} {x : α} (h : l[j]? = some x) : l.set j x = l := by
  apply List.ext_getElem?
  intro q
  by_cases e : j = q
  · subst e; rw [List.getElem?_set_self (List.getElem?_eq_some_iff.1 h).1, h]
  · rw [List.getElem?_set_ne e]
def Gn.withK (x : Gn) (ks : List Int) : Gn := { x with kids := ks }
theorem gksC_kids {P : List GK} {i : Nat} {x : Gn} {v : Value} (ks : List Int) (hp : P[i]? = some (x, v)) : gksC (P.set i (x.withK ks, v)) = gksC P := by
  unfold gksC
  rw [List.flatMap_def, List.flatMap_def, List.map_set, show gkC (x.withK ks, v) = gkC (x, v) from rfl, set_same (by rw [List.getElem?_map, hp]; rfl)]
theorem GNds.setKid {B : Nat} {W : World} {v : Value} {P : List GK} (h : GNds B W v P) {i b c n : Nat} {x : Gn} (hp : P[i]? = some (x, .slice (some ⟨b, 0, none⟩) n c)) (hn : x.kids.length = n) {j : Nat} (k' : Int) :
    GNds B (W.setCell ⟨b, j, none⟩ (.int .i64 k')) v (P.set i (x.withK (x.kids.set j k'), .slice (some ⟨b, 0, none⟩) n c)) := by
  have hgs := grown_store W b j (.int .i64 k')
  have hob : (Value.slice (some ⟨b, 0, none⟩) n c).ownBlock = some b := rfl
  refine ⟨?_, fun q p hq => ?_, fun q r p y k hq hr hne hk => ?_, fun q p k hq hk => ?_⟩
  · rw [List.length_set, gksC_kids _ hp]
    exact own_kept h.row hgs (fun k e e2 => by injection e with e; subst e; exact h.off i _ _ hp hob e2)
  · rcases gset_look hp hq with ⟨rfl, rfl⟩ | ⟨hne, hq⟩
    · have h1 := h.kid _ _ hp
      rw [hn] at h1
      have h2 := (h1.stored j (.int .i64 k')).1
      show World.ownsRow _ B _ 1 _ (x.kids.set j k').length (ki (x.kids.set j k'))
      rw [List.length_set, hn, show ki (x.kids.set j k') = (ki x.kids).set j (.int .i64 k') by simp [ki, List.map_set]]
      exact h2
    · exact own_kept (h.kid q p hq) hgs (fun k e e2 => by injection e with e; subst e; exact h.apart q i p _ _ hq hp hne e2 hob)
  · rcases gset_look hp hq with ⟨rfl, rfl⟩ | ⟨h1, hq'⟩ <;> rcases gset_look hp hr with ⟨rfl, rfl⟩ | ⟨h2, hr'⟩
    · exact absurd rfl hne
    · exact h.apart _ _ _ _ k hp hr' hne (show (Value.slice (some ⟨b, 0, none⟩) n c).ownBlock = some k from hk)
    · exact fun e => h.apart _ _ _ (x, Value.slice (some ⟨b, 0, none⟩) n c) k hq' hp hne hk e
    · exact h.apart _ _ _ _ k hq' hr' hne hk
  · rcases gset_look hp hq with ⟨rfl, rfl⟩ | ⟨h1, hq⟩
    · exact h.off _ _ k hp hk
    · exact h.off _ _ k hq hk
theorem GNds.keep {B : Nat} {W W' : World} {v : Value} {P : List GK} (h : GNds B W v P) {row : Option Nat} (hg : W.grownBy W' row) (hv : ∀ k, row = some k → v.ownBlock ≠ some k) (hk : ∀ (i : Nat) (p : GK) (k : Nat), P[i]? = some p → row = some k → p.2.ownBlock ≠ some k) : GNds B W' v P :=
  ⟨own_kept h.row hg hv, fun i p hp => own_kept (h.kid i p hp) hg (fun k hr => hk i p k hp hr), h.apart, h.off⟩
/-- A row's block is none of a list's. -/
def OffG (v va : Value) (P : List GK) : Prop := ∀ k, v.ownBlock = some k → va.ownBlock ≠ some k ∧ ∀ (i : Nat) (p : GK), P[i]? = some p → p.2.ownBlock ≠ some k
theorem OffG.keep {B : Nat} {W W' : World} {v va : Value} {P : List GK} (ho : OffG v va P) (h : GNds B W va P) (hg : W.grownBy W' v.ownBlock) : GNds B W' va P :=
  h.keep hg (fun k hk => (ho k hk).1) (fun i p k hp hk => (ho k hk).2 i p hp)
theorem OffG.grown {B : Nat} {W : World} {v v' va : Value} {P : List GK} (ho : OffG v va P) (h : GNds B W va P) (hv : v'.ownBlock = v.ownBlock ∨ v'.ownBlock = some W.heap.size) : OffG v' va P := by
  intro k hk
  rcases hv with e | e
  · rw [e] at hk; exact ho k hk
  · rw [hk] at e
    injection e with e
    subst e
    refine ⟨fun e => ?_, fun i p hp e => ?_⟩
    · have := own_lt h.row _ e; omega
    · have := own_lt (h.kid i p hp) _ e; omega
theorem GNds.snoc {B : Nat} {U U' : World} {v v' kv : Value} {P : List GK} {x : Gn} (h : GNds B U v P) (hg : U.grownBy U' v.ownBlock) (hv : v'.ownBlock = v.ownBlock ∨ v'.ownBlock = some U.heap.size) (hrow : U'.ownsRow B 41 10 v' (P ++ [(x, kv)]).length (gksC (P ++ [(x, kv)]))) (hk : U.ownsRow B 3 1 kv x.kids.length (ki x.kids)) (ho : OffG kv v P) : GNds B U' v' (P ++ [(x, kv)]) := by
  have look : ∀ (i : Nat) (p : GK), (P ++ [(x, kv)])[i]? = some p → (i < P.length ∧ P[i]? = some p) ∨ (i = P.length ∧ p = (x, kv)) := by
    intro i p hp
    by_cases q : i < P.length
    · rw [List.getElem?_append_left q] at hp; exact .inl ⟨q, hp⟩
    · rw [List.getElem?_append_right (by omega)] at hp
      have hi : i - P.length = 0 := by
        have := (List.getElem?_eq_some_iff.1 hp).1
        simp at this
        omega
      rw [hi] at hp
      simp only [List.getElem?_cons_zero, Option.some.injEq] at hp
      exact .inr ⟨by omega, hp.symm⟩
  have hkv : ∀ k, v.ownBlock = some k → kv.ownBlock ≠ some k := fun k hk e => (ho k e).1 hk
  have hnew : ∀ k, v'.ownBlock = some k → kv.ownBlock ≠ some k ∧ ∀ (i : Nat) (p : GK), P[i]? = some p → p.2.ownBlock ≠ some k := by
    intro k hk'
    rcases hv with e | e
    · rw [e] at hk'
      exact ⟨hkv k hk', fun i p hp e2 => h.off i p k hp e2 hk'⟩
    · rw [hk'] at e
      injection e with e
      subst e
      exact ⟨fun e => by have := own_lt hk _ e; omega, fun i p hp e => by have := own_lt (h.kid i p hp) _ e; omega⟩
  refine ⟨hrow, fun i p hp => ?_, fun i j p q k hp hq hne hk1 hk2 => ?_, fun i p k hp hk1 hk2 => ?_⟩
  · rcases look i p hp with ⟨_, g⟩ | ⟨_, rfl⟩
    · exact own_kept (h.kid i p g) hg (fun k hk e => h.off i p k g e hk)
    · exact own_kept hk hg hkv
  · rcases look i p hp with ⟨i1, g⟩ | ⟨i1, rfl⟩ <;> rcases look j q hq with ⟨j1, g'⟩ | ⟨j1, rfl⟩
    · exact h.apart _ _ _ _ _ g g' hne hk1 hk2
    · exact (ho k hk2).2 _ _ g hk1
    · exact (ho k hk1).2 _ _ g' hk2
    · omega
  · rcases look i p hp with ⟨_, g⟩ | ⟨_, rfl⟩
    · exact (hnew k hk2).2 _ _ g hk1
    · exact (hnew k hk2).1 hk1
theorem glst_look {P : List GK} {i : Nat} {x : Gn} (h : (glst P)[i]? = some x) : ∃ v, P[i]? = some (x, v) := by
  unfold glst at h
  rw [List.getElem?_map, Option.map_eq_some_iff] at h
  obtain ⟨⟨y, v⟩, hp, rfl⟩ := h
  exact ⟨v, hp⟩
/-- A node of a kind, with these Kids. -/
def kdG (kd : Int) (ks : List Int) : Gn := ⟨kd, 0, ⟨#[]⟩, ⟨#[]⟩, ⟨#[]⟩, 0, 0, 0, 0, ks⟩
end Go.Proofs.Ytcddlconcngjlaa
