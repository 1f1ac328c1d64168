/- Splices of raw ones: at most six, with short texts; valid ones where they are not to be raw. -/
import Derived.Test.YtegamojidckmcaaSpLaw
namespace Go.Proofs.Ytegamojidckmcaa
open Go.RowKit
set_option linter.unusedVariables false

/-- An append whose run is known, in a region that draws its order. -/
theorem step_append_known {P : Program} {w : World} {ops : Array Oper} {o : Oper} {a : Act} {K : Act → World → Prop} {Q : Exit → Act → World → Prop} {E : Prop} (hgd : o.guard = none) (s x : Operand) (t u : TypeId)
    (ho : o.op = .call { callee := .builtin .append, args := #[s, x], argTypes := #[t, u] }) (v1 v2 v' : Value) (w' : World) (hs : a.eval s = v1) (hx : a.eval x = v2)
    (hrun : (Builtin.append_ #[t, u] o.type #[v1, v2]).run P w = .ok v' w') (h : K (a.put o.dst v') w') : if Region.wanted o (yielded ops a.tmps) = true then Oper.wp P o a w K Q else E := by
  have hw : Region.wanted o (yielded ops a.tmps) = true := by simp [Region.wanted, hgd]
  rw [if_pos hw]
  unfold Oper.wp execOp
  simp only [ho, resolve, invoke, builtin, Sem.run_bind, Sem.run_pure, Result.andThen_ok, List.map_toArray, List.map_cons, List.map_nil, hs, hx, hrun]
  exact h
/-- A splice put behind splices of our own. -/
theorem append_sp (w W : World) (v : Value) (l : List Sp) (x : Sp) (hown : W.ownsRow w.heap.size 28 3 v l.length (spsC l)) (hb : Below w.heap.size w W) (hn : l.length ≤ 1000000) :
    ∃ A cap W', (Builtin.append_ #[29, 29] 29 #[v, .slice (some ⟨W.heap.size, 0, none⟩) 1 1]).run Try.prog (W.alloc (.cells #[.int .i64 x.f, .int .i64 x.t, .string x.s] 28)) = .ok (.slice A (l.length + 1) cap) W' ∧
      W'.ownsRow w.heap.size 28 3 (.slice A (l.length + 1) cap) (l.length + 1) (spsC (l ++ [x])) ∧ l.length + 1 ≤ cap ∧ cap ≤ 9223372036854775807 ∧ Below w.heap.size w W' ∧
      ∀ k, k < W.heap.size → some k ≠ v.ownBlock → W'.heap[k]? = W.heap[k]? := by
  have hsz := hb.size
  have hb2 : Below w.heap.size w (W.alloc (.cells #[.int .i64 x.f, .int .i64 x.t, .string x.s] 28)) := hb.alloc hsz _
  obtain ⟨v', W', hrun, ho, hg, hv⟩ := run_append_rows (t := 29) (e := 28) Try.underlying29 splice_info rfl (by omega) (by omega) (W.alloc (.cells #[.int .i64 x.f, .int .i64 x.t, .string x.s] 28)) w.heap.size v l.length (spsC l) (own_alloc hown _) (by simp; omega)
    (some ⟨W.heap.size, 0, none⟩) 1 1 (spC x) rfl (by have := RdS.one (W := W) (x := x) (T := 28); simpa [RdS, spsC] using this) (by intro u hu; simp [spC] at hu; rcases hu with rfl | rfl | rfl <;> rfl) (by omega)
  obtain ⟨A, cap, rfl, h1, h2, _⟩ := own_form ho
  refine ⟨A, cap, W', hrun, by rw [spsC_snoc]; exact ho, h1, h2, hb2.grown hg (by simp; omega) (own_base hown), fun k hk hne => ?_⟩
  rw [hg.block k (by simp; omega) hne]
  exact Below.heap_alloc _ _ _ hk

def SplP (w : World) (n : Nat) (raw : Bool) (e : Ending) (w' : World) : Prop :=
  ∃ (r : List Sp) (A : Option Addr) (m cap : Nat), e = .returned (.slice A m cap) ∧ r.length = m ∧ m ≤ 6 ∧ m ≤ cap ∧ cap ≤ 9223372036854775807 ∧ (∀ x ∈ r, x.s.size ≤ 20) ∧ All64 r ∧ (raw = false → validF n 0 r = true) ∧
    w'.ownsRow w.heap.size 28 3 (.slice A m cap) m (spsC r) ∧ Below w.heap.size w w'
theorem valid_snoc {n : Int} {x : Sp} : ∀ {l : List Sp} {e : Int} {a : Int}, validF n e l = true → (∀ y ∈ l, y.t ≤ a) → e ≤ a → a ≤ x.f → x.f ≤ x.t → x.t ≤ n → validF n e (l ++ [x]) = true
  | [], e, a, _, _, h0, h1, h2, h3 => by simp only [List.nil_append, valid_cons]; exact ⟨by omega, h2, h3, rfl⟩
  | y :: r, e, a, hv, ha, h0, h1, h2, h3 => by
    rw [valid_cons] at hv
    simp only [List.cons_append, valid_cons]
    refine ⟨hv.1, hv.2.1, hv.2.2.1, valid_snoc hv.2.2.2 (fun z hz => ha z (by simp [hz])) (ha y (by simp)) h1 h2 h3⟩

set_option maxHeartbeats 2000000 in
theorem splices_raw (B : Option Addr) (m d : Nat) (l : List Sp) (n : Nat) (w : World) (hm : l.length = m) (hmd : m ≤ d) (hd : d ≤ 9223372036854775807) (hr : RdS w B l) (h64 : All64 l) :
    Calls Try.prog 13 #[.slice B m d, .int .i64 (n : Int), .bool true] w (SplP w n true) := by
  subst hm
  have HR := Lib.hid hr
  have H64 := Lib.hid h64
  clear hr h64
  go_enter Try.func13, Try.ntmps13
  go_wp2_with fail
  go_loopw [7, 9] (fun v i W => ∃ (k : Nat) (r : List Sp) (A : Option Addr) (p cap : Nat), k ≤ l.length ∧ k ≤ 6 ∧ k = p ∧ i = .int .i64 (k : Int) ∧ v = .slice A p cap ∧ p ≤ cap ∧ cap ≤ 9223372036854775807 ∧
    Hid (r.length = p ∧ (∀ x ∈ r, x.s.size ≤ 20) ∧ All64 r ∧ W.ownsRow w.heap.size 28 3 (.slice A p cap) p (spsC r) ∧ Below w.heap.size w W)) (fun _ i _ => l.length - (intOf i).toNat)
  case atStart => exact ⟨0, [], none, 0, 0, by omega, by omega, rfl, rfl, rfl, by omega, by omega, rfl, (by intro x hx; simp at hx), (by intro x hx; simp at hx), own_nil _ _ _ _, Below.refl _ _⟩
  case round =>
    obtain ⟨k, r, A, p, cap, hk, hk6, rfl, rfl, rfl, hpc, hcap, HK⟩ := hrel
    obtain ⟨hrl, htx, h64, hown, hbel⟩ := HK.out
    clear HK
    by_cases hlt : k < l.length ∧ k < 6
    · obtain ⟨hlt, hk6'⟩ := hlt
      obtain ⟨b, off, rfl, hbl, hcell⟩ := (HR.out.below hbel).addr (by omega)
      obtain ⟨c0, c1, c2⟩ := hcell k hlt
      have hx := H64.out _ (spAt_mem hlt)
      generalize spAt l k = x at *
      obtain ⟨hx1, hx2, hx3, hx4, hx5⟩ := hx
      have HOWN := Lib.hid (And.intro hown (And.intro hbel (And.intro htx (And.intro h64 hrl))))
      clear hown hbel htx h64 hrl hcell
      have dk : (k : Int) < (l.length : Int) := by omega
      have dk6 : (k : Int) < 6 := by omega
      go_wp2_with fail
      refine (text_any x.s 20 _ (by omega) (by unfold maxLen; omega)).mono ?_
      rintro e w2 ⟨s', hs1, hs2, rfl, rfl⟩
      obtain ⟨hown, hbel, htx, h64, hrl⟩ := HOWN.out
      rw [← hrl] at hown
      obtain ⟨A2, cap2, W2, hrun, hown2, hc1, hc2, hbel2, _⟩ := append_sp w (wr.alloc (.cells #[.int .i64 x.f, .int .i64 x.t, .string s'] 28)) _ r ⟨x.f, x.t, s'⟩ (own_alloc hown _) (hbel.alloc hbel.size _) (by omega)
      rw [hrl] at hrun hown2 hc1
      have HRUN := Lib.hid hrun
      have HX := Lib.hid (And.intro hown2 hbel2)
      have HT := Lib.hid (And.intro htx (And.intro h64 hrl))
      clear hrun hown2 hbel2 hown hbel htx h64 hrl HOWN hs1
      simp only [World.size_alloc] at HRUN
      go_wp2_with (at_builtin; refine wpList_append_known rfl _ (.tmp 58) 29 rfl _ _ _ _ rfl rfl HRUN.out ?_)
      go_roundw
      case rel =>
        refine ⟨k + 1, r ++ [⟨x.f, x.t, s'⟩], A2, k + 1, cap2, by omega, by omega, rfl, by go_num, rfl, hc1, hc2, by simp [HT.out.2.2], ?_, ?_, HX.out.1, HX.out.2⟩
        · intro y hy
          rcases List.mem_append.1 hy with h | h
          · exact HT.out.1 y h
          · simp at h; subst h; exact hs2
        · intro y hy
          rcases List.mem_append.1 hy with h | h
          · exact HT.out.2.1 y h
          · simp at h; subst h; exact ⟨hx1, hx2, hx3, hx4, by show s'.size ≤ _; omega⟩
      case measure => simp [intOf]; omega
    · have HX := Lib.hid (And.intro hrl (And.intro htx (And.intro h64 (And.intro hown hbel))))
      clear hrl htx h64 hown hbel
      go_wp2
      all_goals first
        | (exfalso; omega; done)
        | (go_ret; exact ⟨r, A, _, cap, rfl, HX.out.1, by omega, hpc, hcap, HX.out.2.1, HX.out.2.2.1, (fun h => by cases h), HX.out.2.2.2.1, HX.out.2.2.2.2⟩)

set_option maxHeartbeats 4000000 in
theorem splices_valid (B : Option Addr) (m d : Nat) (l : List Sp) (n : Nat) (w : World) (hm : l.length = m) (hmd : m ≤ d) (hd : d ≤ 9223372036854775807) (hr : RdS w B l) (h64 : All64 l) (hn : n ≤ 100000) :
    Calls Try.prog 13 #[.slice B m d, .int .i64 (n : Int), .bool false] w (SplP w n false) := by
  subst hm
  have HR := Lib.hid hr
  have H64 := Lib.hid h64
  clear hr h64
  go_enter Try.func13, Try.ntmps13
  go_wp2_with fail
  go_loopw [7, 8, 9] (fun v a i W => ∃ (k q : Nat) (r : List Sp) (A : Option Addr) (p cap : Nat), k ≤ l.length ∧ k ≤ 6 ∧ k = p ∧ q ≤ n ∧ i = .int .i64 (k : Int) ∧ a = .int .i64 (q : Int) ∧ v = .slice A p cap ∧ p ≤ cap ∧ cap ≤ 9223372036854775807 ∧
    Hid (r.length = p ∧ (∀ x ∈ r, x.s.size ≤ 20) ∧ All64 r ∧ (validF n 0 r = true ∧ ∀ x ∈ r, x.t ≤ q) ∧ W.ownsRow w.heap.size 28 3 (.slice A p cap) p (spsC r) ∧ Below w.heap.size w W)) (fun _ _ i _ => l.length - (intOf i).toNat)
  case atStart => exact ⟨0, 0, [], none, 0, 0, by omega, by omega, rfl, by omega, rfl, rfl, rfl, by omega, by omega, rfl, (by intro x hx; simp at hx), (by intro x hx; simp at hx), ⟨rfl, by intro x hx; simp at hx⟩, own_nil _ _ _ _, Below.refl _ _⟩
  case round =>
    obtain ⟨k, q, r, A, p, cap, hk, hk6, rfl, hq, rfl, rfl, rfl, hpc, hcap, HK⟩ := hrel
    obtain ⟨hrl, htx, h64, hval, hown, hbel⟩ := HK.out
    clear HK
    obtain ⟨wo, hwo⟩ : ∃ x, x = wr := ⟨_, rfl⟩
    subst hwo
    by_cases hlt : k < l.length ∧ k < 6
    · obtain ⟨hlt, hk6'⟩ := hlt
      obtain ⟨b, off, rfl, hbl, hcell⟩ := (HR.out.below hbel).addr (by omega)
      obtain ⟨c0, c1, c2⟩ := hcell k hlt
      have hx := H64.out _ (spAt_mem hlt)
      generalize spAt l k = x at *
      obtain ⟨hx1, hx2, hx3, hx4, hx5⟩ := hx
      have HOWN := Lib.hid (And.intro hown (And.intro hbel (And.intro htx (And.intro h64 (And.intro hval hrl)))))
      clear hown hbel htx h64 hrl hcell hval
      have dk : (k : Int) < (l.length : Int) := by omega
      have dk6 : (k : Int) < 6 := by omega
      go_wp2_with fail
      refine (text_any x.s 20 _ (by omega) (by unfold maxLen; omega)).mono ?_
      rintro e w2 ⟨s', hs1, hs2, rfl, rfl⟩
      go_wp2_with fail
      refine (within_any x.f ((n : Int) - q + 1) _ (by omega) (by omega) (by omega)).mono ?_
      rintro e w2 ⟨rfl, rfl⟩
      have hm1 := Int.emod_nonneg x.f (show (n : Int) - q + 1 ≠ 0 by omega)
      have hm2 := Int.emod_lt_of_pos x.f (show (0 : Int) < (n : Int) - q + 1 by omega)
      obtain ⟨u, hu⟩ : ∃ u : Nat, x.f % ((n : Int) - q + 1) = (u : Int) := ⟨(x.f % ((n : Int) - q + 1)).toNat, by omega⟩
      rw [hu]
      rw [hu] at hm1 hm2
      clear hu
      go_wp2_with fail
      obtain ⟨W1, hW1⟩ : ∃ W1, W1 = wo.alloc (.cells #[.int .i64 ((q : Int) + u), .int .i64 x.t, .string s'] 28) := ⟨_, rfl⟩
      have hat : W1.heap[wo.heap.size]? = some (.cells #[.int .i64 ((q : Int) + u), .int .i64 x.t, .string s'] 28) := by rw [hW1]; exact heap_alloc_new _ _
      have hb1 : Below wo.heap.size wo W1 := by rw [hW1]; exact (Below.refl _ _).alloc (Nat.le_refl _) _
      rw [← hW1]
      have HB1 := Lib.hid (And.intro hat hb1)
      have k0 : W1.cell? ⟨wo.heap.size, 0, none⟩ = some (.int .i64 ((q : Int) + u)) := by simp [World.cell?, hat]
      have k1 : W1.cell? ⟨wo.heap.size, 1, none⟩ = some (.int .i64 x.t) := by simp [World.cell?, hat]
      clear hW1 hat hb1 c0 c1 c2
      obtain ⟨M, hM1, hM2, hM3⟩ : ∃ M : Nat, IntKind.i64.wrap ((if 9 < IntKind.i64.wrap ((n : Int) - ((q : Int) + u)) then 9 else IntKind.i64.wrap ((n : Int) - ((q : Int) + u))) + 1) = (M : Int) ∧ 1 ≤ M ∧ M ≤ n - (q + u) + 1 := by
        rw [IntWalk.i64_in ((n : Int) - ((q : Int) + u)) (by omega)]
        by_cases h9 : 9 < (n : Int) - ((q : Int) + u)
        · rw [if_pos h9]; exact ⟨10, by decide, by omega, by omega⟩
        · rw [if_neg h9, IntWalk.i64_in _ (by omega)]; exact ⟨n - (q + u) + 1, by omega, by omega, by omega⟩
      obtain ⟨g, hg⟩ : ∃ g : Nat, x.t % (M : Int) = (g : Int) := ⟨(x.t % (M : Int)).toNat, by have := Int.emod_nonneg x.t (show (M : Int) ≠ 0 by omega); omega⟩
      have hg2 : g < M := by have := Int.emod_lt_of_pos x.t (show (0 : Int) < M by omega); omega
      have HM := Lib.hid (And.intro hM1 hg)
      clear hM1 hg
      go_still_tail 13, (by kernel_rfl)
      refine wpStill_step (fun K hK => ?_)
      go_simp
      refine ⟨.int .i64 (g : Int), ?_, hK _ ?_⟩
      · rw [HM.out.1]
        refine (within_any x.t (M : Int) _ (by omega) (by omega) (by omega)).mono ?_
        rintro e w2 ⟨rfl, rfl⟩
        exact ⟨by rw [HM.out.2], rfl⟩
      clear hK K
      repeat still_step
      refine wpStill_nil ?_
      obtain ⟨W2, hW2⟩ : ∃ W2, W2 = W1.drew := ⟨_, rfl⟩
      change wpList _ _ _ _ _ W1.drew
      have hat2 : W2.heap[wo.heap.size]? = some (.cells #[.int .i64 ((q : Int) + u), .int .i64 x.t, .string s'] 28) := by rw [hW2]; exact HB1.out.1
      have hb2 : Below wo.heap.size wo W2 := by rw [hW2]; exact HB1.out.2.drew
      rw [← hW2]
      clear hW2 k0 k1 HB1
      have k0 : W2.cell? ⟨wo.heap.size, 0, none⟩ = some (.int .i64 ((q : Int) + u)) := by simp [World.cell?, hat2]
      have k1 : W2.cell? ⟨wo.heap.size, 1, none⟩ = some (.int .i64 x.t) := by simp [World.cell?, hat2]
      have k2 : W2.cell? ⟨wo.heap.size, 2, none⟩ = some (.string s') := by simp [World.cell?, hat2]
      have kf : W2.frozen? ⟨wo.heap.size, 1, none⟩ = false := by simp [World.frozen?, hat2]
      have HB2 := Lib.hid (And.intro hat2 hb2)
      clear hat2 hb2
      obtain ⟨hown, hbel, htx, h64, hval, hrl⟩ := HOWN.out
      have hown1 := own_below hown HB2.out.2
      rw [← hrl] at hown1
      have hown3 := own_setCell hown1 ⟨wo.heap.size, 1, none⟩ (.int .i64 ((q : Int) + u + g)) (fun j hj => by have := own_lt hown j (by rw [hrl] at hj; exact hj); show j ≠ wo.heap.size; omega)
      have hbel3 : Below w.heap.size w (W2.setCell ⟨wo.heap.size, 1, none⟩ (.int .i64 ((q : Int) + u + g))) := (below_step hbel HB2.out.2).setCell hbel.size _
      obtain ⟨A2, cap2, W4, hrun, hown4, hc1, hc2, hbel4, _⟩ := append_sp w _ _ r ⟨(q : Int) + u, (q : Int) + u + g, s'⟩ hown3 hbel3 (by omega)
      rw [hrl] at hrun hown4 hc1
      simp only [World.size_setCell] at hrun
      have HRUN := Lib.hid hrun
      have HX := Lib.hid (And.intro hown4 hbel4)
      have HT := Lib.hid (And.intro htx (And.intro h64 (And.intro hrl hval)))
      clear hrun hown4 hbel4 hown hbel htx h64 hrl HOWN hs1 hown1 hown3 hbel3 hval HM
      go_wp2_with (at_builtin; refine wpList_append_known rfl _ (.tmp 58) 29 rfl _ _ _ _ rfl rfl HRUN.out ?_)
      go_roundw
      case rel =>
        refine ⟨k + 1, q + u + g, r ++ [⟨(q : Int) + u, (q : Int) + u + g, s'⟩], A2, k + 1, cap2, by omega, by omega, rfl, by omega, by go_num, by go_num, rfl, hc1, hc2, by simp [HT.out.2.2.1], ?_, ?_, ⟨?_, ?_⟩, HX.out.1, HX.out.2⟩
        · intro y hy
          rcases List.mem_append.1 hy with h | h
          · exact HT.out.1 y h
          · simp at h; subst h; exact hs2
        · intro y hy
          rcases List.mem_append.1 hy with h | h
          · exact HT.out.2.1 y h
          · simp at h; subst h; exact ⟨by show _ ≤ (q : Int) + u; omega, by show (q : Int) + u ≤ _; omega, by show _ ≤ (q : Int) + u + g; omega, by show (q : Int) + u + g ≤ _; omega, by show s'.size ≤ _; omega⟩
        · exact valid_snoc HT.out.2.2.2.1 HT.out.2.2.2.2 (by omega) (by show (q : Int) ≤ (q : Int) + u; omega) (by show (q : Int) + u ≤ (q : Int) + u + g; omega) (by show (q : Int) + u + g ≤ n; omega)
        · intro y hy
          rcases List.mem_append.1 hy with h | h
          · have := HT.out.2.2.2.2 y h; omega
          · simp at h; subst h; show (q : Int) + u + g ≤ _; omega
      case measure => simp [intOf]; omega
    · have HX := Lib.hid (And.intro hrl (And.intro htx (And.intro h64 (And.intro hown (And.intro hbel hval)))))
      clear hrl htx h64 hown hbel hval
      go_wp2
      all_goals first
        | (exfalso; omega; done)
        | (go_ret; exact ⟨r, A, _, cap, rfl, HX.out.1, by omega, hpc, hcap, HX.out.2.1, HX.out.2.2.1, (fun _ => HX.out.2.2.2.2.2.1), HX.out.2.2.2.1, HX.out.2.2.2.2.1⟩)
end Go.Proofs.Ytegamojidckmcaa
