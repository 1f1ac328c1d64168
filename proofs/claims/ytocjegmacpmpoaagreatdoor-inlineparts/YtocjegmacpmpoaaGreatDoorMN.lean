/- Chapter 12: how deep a node's tree is, told by its Kids; the law's own function that reckons it. · Chapter 12: the law's own function that reckons how deep a tree is. · Two texts of plays in one sequence: what it is read as. No program. -/
import Derived.Test.YtocjegmacpmpoaaGreatDoorMJ
import Derived.Test.YtocjegmacpmpoaaGreatDoorMH
import Derived.Test.YtocjegmacpmpoaaGreatDoorMA
set_option linter.unusedSimpArgs false
set_option linter.unusedVariables false
/-! ### InDep -/
namespace Go.Proofs.YtocjegmacpmpoaaGreatDoor
open Go.RowKit
set_option linter.unusedVariables false
set_option linter.unusedSimpArgs false
set_option maxRecDepth 100000

/-- So many collections in one another at most, from the node i on. -/
def Ht (f : Nat → Option Nd) : Nat → Nat → Prop
  | 0, i => ∃ x, f i = some x ∧ x.kind ≠ 2 ∧ x.kind ≠ 3 ∧ x.kids = []
  | d + 1, i => ∃ x, f i = some x ∧ ((x.kind ≠ 2 ∧ x.kind ≠ 3 ∧ x.kids = []) ∨ ∀ k ∈ x.kids, i < k ∧ Ht f d k)
theorem Ht.up {f : Nat → Option Nd} : ∀ {d i : Nat}, Ht f d i → Ht f (d + 1) i
  | 0, i, h => by
    obtain ⟨x, h1, h2⟩ := h
    exact ⟨x, h1, .inl h2⟩
  | d + 1, i, h => by
    obtain ⟨x, h1, h2⟩ := h
    refine ⟨x, h1, ?_⟩
    rcases h2 with h2 | h2
    · exact .inl h2
    · exact .inr fun k hk => ⟨(h2 k hk).1, (h2 k hk).2.up⟩
/-- A table that says no less of all behind some place. -/
theorem Ht.past {f g : Nat → Option Nd} {b : Nat} (hfg : ∀ k y, b ≤ k → f k = some y → g k = some y) : ∀ {d i : Nat}, b ≤ i → Ht f d i → Ht g d i
  | 0, i, hi, h => by
    obtain ⟨x, h1, h2⟩ := h
    exact ⟨x, hfg _ _ hi h1, h2⟩
  | d + 1, i, hi, h => by
    obtain ⟨x, h1, h2⟩ := h
    refine ⟨x, hfg _ _ hi h1, ?_⟩
    rcases h2 with h2 | h2
    · exact .inl h2
    · exact .inr fun k hk => ⟨(h2 k hk).1, (h2 k hk).2.past hfg (by have := (h2 k hk).1; omega)⟩
theorem Ht.all {f g : Nat → Option Nd} (hfg : ∀ k y, f k = some y → g k = some y) {d i : Nat} (h : Ht f d i) : Ht g d i := h.past (b := 0) (fun k y _ => hfg k y) (Nat.zero_le _)
def DpC (d : Nat) (child : Nat → Nat → InR) : Prop := ∀ s base l n, child s base = .ok (l, n) → Ht (lkp base l) d base
def DpE (d : Nat) (ent : Nat → Nat → InE) : Prop := ∀ s base ks l n, ent s base = .ok (ks, l, n) → ∀ k ∈ ks, base ≤ k ∧ Ht (lkp base l) d k
theorem item_dp {d : Nat} {child : Nat → Nat → InR} (h : DpC d child) : DpE d (inItem child) := by
  intro s base ks l n he
  unfold inItem at he
  cases hc : child s base with
  | error e => rw [hc] at he; cases he
  | ok y =>
    obtain ⟨l', n'⟩ := y
    rw [hc] at he
    dsimp only at he
    split at he
    · cases he
    · simp only [Except.ok.injEq, Prod.mk.injEq] at he
      obtain ⟨rfl, rfl, rfl⟩ := he
      intro k hk
      simp only [List.mem_singleton] at hk
      subst hk
      exact ⟨Nat.le_refl _, h _ _ _ _ hc⟩
theorem pair_dp {d : Nat} {child : Nat → Nat → InR} (h : DpC d child) (b : List Int) : DpE d (inPair child b) := by
  intro s base ks l n he
  unfold inPair at he
  cases hk : inKey b s with
  | none => rw [hk] at he; cases he
  | some kn =>
    obtain ⟨k, n1⟩ := kn
    rw [hk] at he
    dsimp only at he
    split at he
    · cases hc : child (inBlk b (inBlk b n1 + 1)) (base + 1) with
      | error e => rw [hc] at he; cases he
      | ok y =>
        obtain ⟨l', m⟩ := y
        rw [hc] at he
        simp only [Except.ok.injEq, Prod.mk.injEq] at he
        obtain ⟨rfl, rfl, rfl⟩ := he
        have hk1 : k.kind = 1 ∧ k.kids = [] := by
          unfold inKey at hk
          split at hk
          · cases hk
          · split at hk
            · injection hk with hk; injection hk with h1 h2; rw [← h1]; exact ⟨rfl, rfl⟩
            · cases hk
        have h1 := h _ _ _ _ hc
        intro z hz
        simp only [List.mem_cons, List.not_mem_nil, or_false] at hz
        rcases hz with rfl | rfl
        · refine ⟨Nat.le_refl _, ?_⟩
          have hx : lkp z (k :: inVal l' s (inBlk b n1 + 1) (m == inBlk b (inBlk b n1 + 1))) z = some k := lkp_at (base := z) 0 rfl
          cases d with
          | zero => exact ⟨k, hx, by rw [hk1.1]; decide, by rw [hk1.1]; decide, hk1.2⟩
          | succ d => exact ⟨k, hx, .inl ⟨by rw [hk1.1]; decide, by rw [hk1.1]; decide, hk1.2⟩⟩
        · refine ⟨by omega, ?_⟩
          generalize (m == inBlk b (inBlk b n1 + 1)) = t
          generalize inBlk b n1 + 1 = mk
          cases l' with
          | nil =>
            cases d with
            | zero => obtain ⟨x, hx, _⟩ := h1; unfold lkp at hx; simp at hx
            | succ d => obtain ⟨x, hx, _⟩ := h1; unfold lkp at hx; simp at hx
          | cons y t' =>
            have hpast : ∀ k' y', base + 2 ≤ k' → lkp (base + 1) (y :: t') k' = some y' → lkp base (k :: inVal (y :: t') s mk t) k' = some y' := by
              intro k' y' hk' hy
              unfold lkp at hy ⊢
              rw [if_pos (by omega), show k' - (base + 1) = (k' - (base + 2)) + 1 by omega, List.getElem?_cons_succ] at hy
              rw [if_pos (by omega), show k' - base = (k' - (base + 2)) + 1 + 1 by omega, List.getElem?_cons_succ]
              exact hy
            have hy0 : lkp (base + 1) (y :: t') (base + 1) = some y := lkp_at (base := base + 1) 0 rfl
            have hv : ∃ y2 : Nd, lkp base (k :: inVal (y :: t') s mk t) (base + 1) = some y2 ∧ y2.kind = y.kind ∧ y2.kids = y.kids := ⟨_, lkp_at (base := base) 1 rfl, rfl, rfl⟩
            obtain ⟨y2, hy2, e1, e2⟩ := hv
            cases d with
            | zero =>
              obtain ⟨x, hx, q1, q2, q3⟩ := h1
              rw [hy0] at hx
              injection hx with hx
              subst hx
              exact ⟨y2, hy2, by rw [e1]; exact q1, by rw [e1]; exact q2, by rw [e2]; exact q3⟩
            | succ d =>
              obtain ⟨x, hx, q⟩ := h1
              rw [hy0] at hx
              injection hx with hx
              subst hx
              refine ⟨y2, hy2, ?_⟩
              rcases q with ⟨q1, q2, q3⟩ | q
              · exact .inl ⟨by rw [e1]; exact q1, by rw [e1]; exact q2, by rw [e2]; exact q3⟩
              · refine .inr fun k' hk' => ?_
                rw [e2] at hk'
                obtain ⟨g1, g2⟩ := q k' hk'
                exact ⟨g1, g2.past (b := base + 2) hpast (by omega)⟩
    · cases he
theorem loop_dp {d : Nat} {ent : Nat → Nat → InE} (h : DpE d ent) (b : List Int) (c : Int) : ∀ (g s base : Nat) (ks : List Nat) (bl : List Nd) (K : List Nat) (L : List Nd) (n b0 : Nat), base = b0 + bl.length → (∀ k ∈ ks, b0 ≤ k ∧ Ht (lkp b0 bl) d k) →
    inLoop ent b c g s base ks bl = .ok (K, L, n) → ∀ k ∈ K, b0 ≤ k ∧ Ht (lkp b0 L) d k
  | 0, _, _, _, _, _, _, _, _, _, _, he => by cases he
  | g + 1, s, base, ks, bl, K, L, n, b0, hb, hS, he => by
    unfold inLoop at he
    cases hE : ent s base with
    | error e => rw [hE] at he; cases he
    | ok r =>
      obtain ⟨k, l, m⟩ := r
      rw [hE] at he
      dsimp only at he
      have h4 := h s base k l m hE
      subst hb
      have hC' : ∀ z ∈ ks ++ k, b0 ≤ z ∧ Ht (lkp b0 (bl ++ l)) d z := by
        intro z hz
        rcases List.mem_append.1 hz with hz | hz
        · exact ⟨(hS z hz).1, (hS z hz).2.all fun _ _ => lkp_left l⟩
        · exact ⟨by have := (h4 z hz).1; omega, (h4 z hz).2.all fun _ _ => lkp_right bl⟩
      split at he
      · simp only [Except.ok.injEq, Prod.mk.injEq] at he
        obtain ⟨rfl, rfl, rfl⟩ := he
        exact hC'
      · split at he
        · exact loop_dp h b c g _ _ _ _ K L n b0 (by rw [List.length_append]; omega) hC' he
        · cases he
theorem coll_dp {d : Nat} {ent : Nat → Nat → InE} (h : DpE d ent) (b : List Int) (c : Int) {s base : Nat} {K : List Nat} {L : List Nd} {n : Nat} (he : inColl ent b c s base = .ok (K, L, n)) : ∀ k ∈ K, base ≤ k ∧ Ht (lkp base L) d k := by
  unfold inColl at he
  split at he
  · simp only [Except.ok.injEq, Prod.mk.injEq] at he
    obtain ⟨rfl, rfl, rfl⟩ := he
    intro k hk; cases hk
  · exact loop_dp h b c _ _ _ _ _ K L n base (by simp) (fun k hk => by cases hk) he
/-- A node whose content is no collection, or one of collections so deep. -/
theorem nodeG_dp {d : Nat} {child : Nat → Nat → InR} {deep : Bool} (h : deep = false → ∃ d', d = d' + 1 ∧ DpC d' child) (b : List Int) (fl : Bool) : DpC d (inNodeG child deep b fl) := by
  intro s base l n he
  unfold inNodeG at he
  split at he
  · obtain ⟨p, hp⟩ : ∃ p, Pr.takeP (b.drop s) = p := ⟨_, rfl⟩
    rw [hp] at he
    obtain ⟨s2, hs2⟩ : ∃ s2, inBlk b (s + p.2.2.1) = s2 := ⟨_, rfl⟩
    have hg := blk_ge b (s + p.2.2.1)
    rw [hs2] at he hg
    have leaf : ∀ (x : Nd) (L : List Nd), x.kind ≠ 2 → x.kind ≠ 3 → x.kids = [] → Ht (lkp base (x :: L)) d base := by
      intro x L h1 h2 h3
      have hx : lkp base (x :: L) base = some x := lkp_at (base := base) 0 rfl
      cases d with
      | zero => exact ⟨x, hx, h1, h2, h3⟩
      | succ d => exact ⟨x, hx, .inl ⟨h1, h2, h3⟩⟩
    have coll : ∀ (K : List Nat) (L : List Nd) (kd : Int) (tg an : List Int) (a e : Nat), (∃ d', d = d' + 1 ∧ ∀ k ∈ K, base + 1 ≤ k ∧ Ht (lkp (base + 1) L) d' k) → Ht (lkp base (inFin { Nd.nil with kind := kd, style := 7, kids := K } tg an a e :: L)) d base := by
      rintro K L kd tg an a e ⟨d', rfl, hK⟩
      refine ⟨_, lkp_at (base := base) 0 rfl, .inr fun k hk => ?_⟩
      have hk' : k ∈ K := hk
      exact ⟨by have := (hK k hk').1; omega, (hK k hk').2.all fun _ _ => lkp_cons _⟩
    cases hc : inCont child deep b fl s2 (base + 1) with
    | error e => rw [hc] at he; cases he
    | ok r =>
      obtain ⟨x, L, m⟩ := r
      rw [hc] at he
      simp only [inDone] at he
      have hcx : (x.kind ≠ 2 ∧ x.kind ≠ 3 ∧ x.kids = []) ∨ (x.kind ≠ 0 ∧ ∃ (K : List Nat) (kd : Int), x = { Nd.nil with kind := kd, style := 7, kids := K } ∧ ∃ d', d = d' + 1 ∧ ∀ k ∈ K, base + 1 ≤ k ∧ Ht (lkp (base + 1) L) d' k) := by
        unfold inCont at hc
        split at hc
        · split at hc
          · simp only [Except.ok.injEq, Prod.mk.injEq] at hc
            obtain ⟨rfl, _, _⟩ := hc
            exact .inl ⟨by simp, by simp, rfl⟩
          · cases hc
        · split at hc
          · split at hc
            · cases hc
            · rename_i hd
              obtain ⟨d', rfl, hch⟩ := h (by simpa using hd)
              cases hcc : inColl (inItem child) b 93 s2 (base + 1) with
              | error e => rw [hcc] at hc; cases hc
              | ok r =>
                obtain ⟨K, L', n'⟩ := r
                rw [hcc] at hc
                simp only [Except.ok.injEq, Prod.mk.injEq] at hc
                obtain ⟨rfl, rfl, rfl⟩ := hc
                exact .inr ⟨by simp, K, 2, rfl, d', rfl, coll_dp (item_dp hch) b 93 hcc⟩
          · split at hc
            · split at hc
              · cases hc
              · rename_i hd
                obtain ⟨d', rfl, hch⟩ := h (by simpa using hd)
                cases hcc : inColl (inPair child b) b 125 s2 (base + 1) with
                | error e => rw [hcc] at hc; cases hc
                | ok r =>
                  obtain ⟨K, L', n'⟩ := r
                  rw [hcc] at hc
                  simp only [Except.ok.injEq, Prod.mk.injEq] at hc
                  obtain ⟨rfl, rfl, rfl⟩ := hc
                  exact .inr ⟨by simp, K, 3, rfl, d', rfl, coll_dp (pair_dp hch b) b 125 hcc⟩
            · split at hc
              · cases hc
              · rename_i k st v n' hl
                simp only [Except.ok.injEq, Prod.mk.injEq] at hc
                obtain ⟨rfl, _, _⟩ := hc
                have hk : k = 0 ∨ k = 1 := by
                  unfold inLeaf at hl
                  split at hl
                  · cases ht : takeD (b.drop s2) with
                    | none => rw [ht] at hl; cases hl
                    | some z => rw [ht] at hl; simp at hl; exact .inr hl.1.symm
                  · split at hl
                    · cases ht : Sg.takeS (b.drop s2) with
                      | none => rw [ht] at hl; cases hl
                      | some z => rw [ht] at hl; simp at hl; exact .inr hl.1.symm
                    · split at hl
                      · simp at hl; exact .inr hl.1.symm
                      · simp at hl; exact .inl hl.1.symm
                refine .inl ⟨?_, ?_, rfl⟩
                · rcases hk with rfl | rfl <;> simp
                · rcases hk with rfl | rfl <;> simp
      split at he
      · cases he
      · split at he
        · rename_i hk
          simp only [Except.ok.injEq, Prod.mk.injEq] at he
          obtain ⟨rfl, rfl⟩ := he
          rcases hcx with ⟨q1, q2, q3⟩ | ⟨q, _⟩
          · exact leaf _ _ q1 q2 q3
          · exact absurd hk q
        · simp only [Except.ok.injEq, Prod.mk.injEq] at he
          obtain ⟨rfl, rfl⟩ := he
          rcases hcx with ⟨q1, q2, q3⟩ | ⟨_, K, kd, rfl, q⟩
          · exact leaf _ _ q1 q2 q3
          · exact coll K L kd _ _ _ _ q
  · cases he
theorem node_dp (b : List Int) : ∀ (f : Nat) (fl : Bool), DpC f (inNode f b fl)
  | 0, fl => nodeG_dp (fun h => by cases h) b fl
  | f + 1, fl => nodeG_dp (fun _ => ⟨f, rfl, node_dp b f true⟩) b fl
end Go.Proofs.YtocjegmacpmpoaaGreatDoor
/-! ### InDepth -/
namespace Go.Proofs.YtocjegmacpmpoaaGreatDoor
open Go.RowKit
set_option linter.unusedVariables false
set_option linter.unusedSimpArgs false
set_option maxRecDepth 100000

set_option maxHeartbeats 4000000 in
theorem depth_step {W : World} {g cap n i kl c D d : Nat} {A : Option Addr} {kd : Int} {ks : List Nat} (hin : i < n) (hnc : n ≤ cap) (hcap : cap ≤ 9223372036854775807) (hd : d ≤ 1000) (hD : D ≤ d) (hkd : kd = 2 ∨ kd = 3 → D + 1 ≤ d)
    (hkl : ks.length = kl) (hlc : kl ≤ c) (hcm : c ≤ 9223372036854775807) (h0 : W.cell? ⟨g, i * 10, none⟩ = some (.int .i64 kd)) (h9 : W.cell? ⟨g, i * 10 + 9, none⟩ = some (.slice A kl c)) (hrd : RdC W A (kidC ks))
    (hk : ∀ k ∈ ks, i < k ∧ Calls Tryz.prog 9 #[.slice (some ⟨g, 0, none⟩) n cap, .int .i64 (k : Int)] W fun e w' => (∃ m : Nat, m ≤ D ∧ e = .returned (.int .i64 (m : Int))) ∧ W = w') :
    Calls Tryz.prog 9 #[.slice (some ⟨g, 0, none⟩) n cap, .int .i64 (i : Int)] W fun e w' => (∃ m : Nat, m ≤ d ∧ e = .returned (.int .i64 (m : Int))) ∧ W = w' := by
  have HK := Lib.hid hk
  have HRD := Lib.hid hrd
  have HKL := Lib.hid hkl
  have di : (i : Int) < (n : Int) := by omega
  have di' : decide ((n : Int) ≤ (i : Int)) = false := decide_eq_false (by omega)
  have di'' : decide (n ≤ i) = false := decide_eq_false (by omega)
  have HKD := Lib.hid hkd
  clear hk hrd hkl hkd
  go_enter Tryz.func9, Tryz.ntmps9
  go_wp2_with fail
  go_loopw [5, 18] (fun m q V => ∃ j a : Nat, j ≤ kl ∧ a ≤ D ∧ m = .int .i64 (a : Int) ∧ q = .int .i64 (j : Int) ∧ W = V) (fun _ q _ => kl - (intOf q).toNat)
  case atStart => exact ⟨0, 0, Nat.zero_le _, Nat.zero_le _, rfl, rfl, rfl⟩
  case round =>
    obtain ⟨j, a, hj, ha, rfl, rfl, rfl⟩ := hrel
    by_cases hlt : j < kl
    · have dj : (j : Int) < (kl : Int) := by omega
      obtain ⟨k, hz⟩ : ∃ z, ks[j]? = some z := ⟨ks[j]'(by rw [HKL.out]; exact hlt), List.getElem?_eq_getElem _⟩
      obtain ⟨hik, hcall⟩ := HK.out k (List.mem_of_getElem? hz)
      obtain ⟨bk, ok, rfl, hkc⟩ := HRD.out.addr (by rw [kidC, List.length_map, HKL.out]; omega)
      have ckk : W.cell? ⟨bk, ok + j, none⟩ = some (.int .i64 (k : Int)) := hkc j _ (by unfold kidC; rw [List.getElem?_map, hz]; rfl)
      have dk : (i : Int) < (k : Int) := by omega
      have HCALL := Lib.hid hcall
      clear hz hcall hkc
      go_wp2_with fail
      refine HCALL.out.mono ?_
      rintro e w' ⟨⟨m, hm, rfl⟩, rfl⟩
      go_wp2_with fail
      go_roundw
      case rel =>
        have hv : Value.int IntKind.i64 (if a < m then (m : Int) else (a : Int)) = Value.int IntKind.i64 ((max a m : Nat) : Int) := by
          by_cases h : a < m
          · rw [if_pos h]; congr 1; omega
          · rw [if_neg h]; congr 1; omega
        exact ⟨j + 1, max a m, by omega, by omega, by first | exact hv | (congr 1; omega), by go_num, by trivial⟩
      case measure => simp [intOf]; omega
    · obtain rfl : j = kl := by omega
      by_cases h2 : kd = 2
      · have := HKD.out (.inl h2)
        subst h2
        have HA := Lib.hid this
        clear this
        go_wp2_with fail
        go_ret
        exact ⟨⟨a + 1, by have := HA.out; omega, by simp⟩, rfl⟩
      · by_cases h3 : kd = 3
        · have := HKD.out (.inr h3)
          subst h3
          have HA := Lib.hid this
          clear this
          go_wp2_with fail
          go_ret
          exact ⟨⟨a + 1, by have := HA.out; omega, by simp⟩, rfl⟩
        · have e2 : (kd == 2) = false := beq_eq_false_iff_ne.2 h2
          have e3 : (kd == 3) = false := beq_eq_false_iff_ne.2 h3
          go_wp2_with fail
          go_ret
          exact ⟨⟨a, by omega, rfl⟩, rfl⟩
/-- The depth of a tree that is no deeper than d. -/
theorem depth_at {W : World} {g cap n : Nat} {l : List Nd} (hn : l.length = n) (hnc : n ≤ cap) (hcap : cap ≤ 9223372036854775807)
    (hlook : ∀ (i : Nat) (x : Nd), l[i]? = some x → ∃ A c, x.kids.length ≤ c ∧ c ≤ 9223372036854775807 ∧ RdC W A (kidC x.kids) ∧ ∀ (j : Nat) (u : Value), (ndC (x, .slice A x.kids.length c))[j]? = some u → W.cell? ⟨g, i * 10 + j, none⟩ = some u) :
    ∀ (d i : Nat), d ≤ 1000 → Ht (lkp 0 l) d i → Calls Tryz.prog 9 #[.slice (some ⟨g, 0, none⟩) n cap, .int .i64 (i : Int)] W fun e w' => (∃ m : Nat, m ≤ d ∧ e = .returned (.int .i64 (m : Int))) ∧ W = w' := by
  have look : ∀ {i : Nat} {x : Nd}, lkp 0 l i = some x → l[i]? = some x ∧ i < n := by
    intro i x h
    unfold lkp at h
    rw [if_pos (Nat.zero_le _), Nat.sub_zero] at h
    exact ⟨h, by rw [← hn]; exact (List.getElem?_eq_some_iff.1 h).1⟩
  have leaf : ∀ (d i : Nat) (x : Nd), d ≤ 1000 → lkp 0 l i = some x → x.kind ≠ 2 → x.kind ≠ 3 → x.kids = [] → Calls Tryz.prog 9 #[.slice (some ⟨g, 0, none⟩) n cap, .int .i64 (i : Int)] W fun e w' => (∃ m : Nat, m ≤ d ∧ e = .returned (.int .i64 (m : Int))) ∧ W = w' := by
    intro d i x hd hx h2 h3 h4
    obtain ⟨hl, hi⟩ := look hx
    obtain ⟨A, c, k1, k2, k3, k4⟩ := hlook i x hl
    exact depth_step (D := 0) hi hnc hcap hd (Nat.zero_le _) (fun h => by rcases h with h | h; exact absurd h h2; exact absurd h h3) rfl k1 k2 (k4 0 _ rfl) (k4 9 _ rfl) k3 (fun k hk => by rw [h4] at hk; cases hk)
  intro d
  induction d with
  | zero =>
    intro i hd h
    obtain ⟨x, hx, h2, h3, h4⟩ := h
    exact leaf 0 i x hd hx h2 h3 h4
  | succ d ih =>
    intro i hd h
    obtain ⟨x, hx, h⟩ := h
    rcases h with ⟨h2, h3, h4⟩ | h
    · exact leaf _ i x hd hx h2 h3 h4
    · obtain ⟨hl, hi⟩ := look hx
      obtain ⟨A, c, k1, k2, k3, k4⟩ := hlook i x hl
      exact depth_step (D := d) hi hnc hcap hd (by omega) (fun _ => Nat.le_refl _) rfl k1 k2 (k4 0 _ rfl) (k4 9 _ rfl) k3 (fun k hk => ⟨(h k hk).1, ih k (by omega) (h k hk).2⟩)
end Go.Proofs.YtocjegmacpmpoaaGreatDoor
/-! ### PyParts -/
namespace Go.Proofs.YtocjegmacpmpoaaGreatDoor
open Go.RowKit
set_option linter.unusedVariables false
set_option maxRecDepth 100000

theorem sfL_zero (l : List Nd) : sfL 0 l = l := by
  unfold sfL
  have : ∀ x ∈ l, sfN 0 x = id x := by intro x _; cases x; rfl
  rw [List.map_congr_left this]; simp
theorem Is.parse {d : Nat} {x : List Int} {m : Nat} {L : List Nd} (h : Is d x m L) (hd : d ≤ 64) (hl : x.length ≤ 65536) : inParse x true = if m < x.length then .error 2 else .ok L := by
  have hn := h.node x [] 0 64 (by simp) ⟨0, [], rfl, .inl rfl⟩ hd
  have hp := h.pos
  unfold inParse
  rw [if_pos (text_fit h.fit hl), hn]
  dsimp only
  rw [Nat.zero_add, sfL_zero]
  by_cases hm : m < x.length
  · rw [if_pos hm, if_pos (.inr hm)]
  · rw [if_neg hm, if_neg (by omega)]
theorem Is.blank {d : Nat} {x : List Int} {m : Nat} {L : List Nd} (h : Is d x m L) : Is d (x ++ [32]) m L := by
  have hle := h.le
  have hp := h.pos
  refine ⟨h.pos, by simp; omega, ?_, h.fit.append (asc_fit [32] (by decide)), fun c hc => by rw [getD_app (by omega)]; exact h.hd c hc, h.ne, fun b r q f hb hr hf => ?_, fun y hy => ?_⟩
  · rw [List.drop_append_of_le_length hle, h.tail, List.length_append, List.length_singleton, show x.length + 1 - m = (x.length - m) + 1 by omega, List.replicate_succ']
  · rw [List.append_assoc] at hb
    exact h.node b _ q f hb hr.blank hf
  · have := (h.rep y hy).put [] [32]
    have e : sfN 0 y = y := by cases y; rfl
    simpa [e] using this
theorem parts_is {d : Nat} {a b : List Int} {La Lb : List Nd} (ha : Is d a a.length La) (hb : Is d b b.length Lb) :
    Is (d + 1) ([91] ++ a ++ [32, 44, 32] ++ b ++ [32, 93]) (a.length + b.length + 6) (⟨2, 7, inTag 2 7 [] [], [], [], 0, a.length + b.length + 6, 0, 0, [1, La.length + 1]⟩ :: (mvL 1 (sfL 1 La) ++ mvL (La.length + 1) (sfL (a.length + 4) Lb))) := by
  have hpn : PIs [] 0 [] [] := by
    obtain ⟨n, tg, an, h⟩ := pyP_is .none
    rcases h.way with ⟨_, rfl, rfl, rfl⟩ | ⟨h1, _⟩
    · exact h
    · simp at h1
  have hi := (ha.blank.item.one 93).more hb.item (fun u => ⟨0, 44 :: u, rfl, .inr (.inl rfl)⟩) (by decide) 1
  have hc := coll_is hpn 91 (.inl ⟨rfl, rfl, rfl, rfl⟩) 0 1 (.inr ⟨hi, fun r => ⟨1, 93 :: r, rfl, .inr (.inr (.inl rfl))⟩⟩)
  have e1 : ([] : List Int) ++ 91 :: (List.replicate 0 32 ++ ((a ++ [32] ++ 44 :: (List.replicate 1 32 ++ b)) ++ (List.replicate 1 32 ++ [93]))) = [91] ++ a ++ [32, 44, 32] ++ b ++ [32, 93] := by simp
  have e2 : ([] : List Int).length + 1 + 0 + (a ++ [32] ++ 44 :: (List.replicate 1 32 ++ b)).length + 1 + 1 = a.length + b.length + 6 := by simp; omega
  rw [e1, e2] at hc
  have e3 : ([0] ++ List.map (fun z => z + La.length) [0]).map (· + 1) = [1, La.length + 1] := by simp
  have e4 : mvL 1 (sfL (([] : List Int).length + 1 + 0) (La ++ mvL La.length (sfL ((a ++ [32]).length + 1 + 1) Lb))) = mvL 1 (sfL 1 La) ++ mvL (La.length + 1) (sfL (a.length + 4) Lb) := by
    rw [sfL_app, mvL_app, sfL_mv, mvL_mv, sfL_sh]
    simp
  rw [e3, e4] at hc
  exact hc
/-- What the two are, and what both together are. -/
theorem parts_all {a b : List Int} (ha : PyN 4 a) (hb : PyN 4 b) {l m : List Nd} (h1 : inParse a true = .ok l) (h2 : inParse b true = .ok m) :
    inParse ([91] ++ a ++ [32, 44, 32] ++ b ++ [32, 93]) true = .ok (⟨2, 7, inTag 2 7 [] [], [], [], 0, a.length + b.length + 6, 0, 0, [1, l.length + 1]⟩ :: (mvL 1 (sfL 1 l) ++ mvL (l.length + 1) (sfL (a.length + 4) m))) ∧
    Ht (lkp 0 l) 4 0 ∧ Ht (lkp 0 m) 4 0 ∧ 0 < l.length ∧ 0 < m.length := by
  have h48 : pySz 4 ≤ 30000 := by decide
  have hal := pyN_len 4 a ha
  have hbl := pyN_len 4 b hb
  have one : ∀ {x : List Int} {l : List Nd}, PyN 4 x → x.length ≤ 30000 → inParse x true = .ok l → Is 4 x x.length l ∧ Ht (lkp 0 l) 4 0 := by
    intro x l hx hxl h
    obtain ⟨m', L, hi⟩ := pyN_is 4 x hx
    rw [hi.parse (by omega) (by omega)] at h
    have hle := hi.le
    by_cases hm : m' < x.length
    · rw [if_pos hm] at h; cases h
    · rw [if_neg hm] at h
      injection h with h
      subst h
      obtain rfl : m' = x.length := by omega
      refine ⟨hi, ?_⟩
      have hn := hi.node x [] 0 4 (by simp) ⟨0, [], rfl, .inl rfl⟩ (Nat.le_refl _)
      rw [sfL_zero] at hn
      exact node_dp x 4 true 0 0 _ _ hn
  obtain ⟨i1, t1⟩ := one ha (by omega) h1
  obtain ⟨i2, t2⟩ := one hb (by omega) h2
  have hi := parts_is i1 i2
  have hlen : ([91] ++ a ++ [32, 44, 32] ++ b ++ [32, 93]).length = a.length + b.length + 6 := by simp; omega
  refine ⟨?_, t1, t2, List.length_pos_iff.2 i1.ne, List.length_pos_iff.2 i2.ne⟩
  rw [hi.parse (by omega) (by omega), if_neg (by omega)]
theorem parts_left {l m : List Nd} {x0 : Nd} {k d e : Nat} (i : Nat) {y : Nd} (h : l[i]? = some y) : (x0 :: (mvL 1 (sfL d l) ++ mvL k (sfL e m)))[1 + i]? = some (mvN 1 (sfN d y)) := by
  have hi := (List.getElem?_eq_some_iff.1 h).1
  rw [Nat.add_comm, List.getElem?_cons_succ, List.getElem?_append_left (by rw [mvL_len, sfL_len]; exact hi)]
  simp [mvL, sfL, h]
theorem parts_right {l m : List Nd} {x0 : Nd} {k d e : Nat} (i : Nat) {y : Nd} (h : m[i]? = some y) : (x0 :: (mvL 1 (sfL d l) ++ mvL k (sfL e m)))[1 + l.length + i]? = some (mvN k (sfN e y)) := by
  rw [show 1 + l.length + i = (l.length + i) + 1 by omega, List.getElem?_cons_succ, List.getElem?_append_right (by rw [mvL_len, sfL_len]; omega), mvL_len, sfL_len, Nat.add_sub_cancel_left]
  simp [mvL, sfL, h]
end Go.Proofs.YtocjegmacpmpoaaGreatDoor
