/-
  Proved: the card of the law 'scholium/scholiumlaw12.InlineParses' (for every input it returns true, and every argument reads as it did before; the package variables that the row lists are tied to the program's text). No conditions.
-/
import Derived.Test.YtocjegmacpmpoaaGreatDoorRows
import Derived.Test.YtocjegmacpmpoaaGreatDoorCards
import Derived.Test.YtocjegmacpmpoaaGreatDoorTie
import Derived.Test.YtocjegmacpmpoaaGreatDoorDoor
import Derived.Test.YtocjegmacpmpoaaGreatDoorMC
import Derived.Test.YtocjegmacpmpoaaGreatDoorMH
import Derived.Test.YtocjegmacpmpoaaGreatDoorMA
import Derived.Test.YtocjegmacpmpoaaGreatDoorMI
import Derived.Test.YtocjegmacpmpoaaGreatDoorML
import Derived.Test.YtocjegmacpmpoaaGreatDoorMM
import Derived.WalkKit
import Derived.ProofKit
import Derived.OpenShut
import Derived.ShutString
import Derived.ChangeOld
import Derived.Below
import Derived.LaidMore
import Derived.Lay
import Derived.SevenTiedAt
namespace Go.Proofs.YtocjegmacpmpoaaGreatDoor.inlineParses
open Go.ChangeShapes Go.WideShapes Go.ChangeAt Go.RowKit
open Go.ChangeMaps (open_string shut_string)
set_option linter.unusedVariables false

theorem own : ownKnob Tryz.prog.godebug = none := by kernel_rfl
theorem laidOut : laidOutB Tryz.prog = true := by kernel_rfl

/-- A slice of integers that came in. -/
def IsRow (k : IntKind) (w : World) (a : Option Addr) (len cap : Nat) (zs : List Int) : Prop :=
  (a = none ∧ len = 0 ∧ cap = 0 ∧ zs = []) ∨
  ∃ x, a = some x ∧ len ≤ cap ∧ cap ≤ maxLen ∧ zs.length = cap ∧ (∀ i, i < zs.length → w.cell? (x.add i) = some (.int k (zs.getD i 0))) ∧ ∀ n ∈ zs, (Lit.int k n).wf = true

set_option linter.unusedSimpArgs false
theorem parse_size {b : List Int} {fl : Bool} {l : List Nd} (h : inParse b fl = .ok l) : l.length ≤ 65537 ∧ ∀ x ∈ l, x.kids.length ≤ 65537 := by
  unfold inParse at h
  split at h
  · rename_i ht
    have hlen : b.length ≤ 65536 := by
      unfold inText at ht
      simp only [Bool.and_eq_true, beq_iff_eq] at ht
      exact chk_y b ht.1
    cases hn : inNode 64 b fl 0 0 with
    | error e => rw [hn] at h; cases h
    | ok y =>
      obtain ⟨l', n⟩ := y
      rw [hn] at h
      dsimp only at h
      split at h
      · cases h
      · simp only [Except.ok.injEq] at h
        subst h
        have hz := node_size b 64 fl 0 0 _ _ (Nat.zero_le _) hn
        have hk := node_lens b 64 fl 0 0 _ _ hn
        have h1 := hz.2.1
        have h2 := hz.2.2.2.1
        exact ⟨by omega, fun x hx => by have := hk x hx; omega⟩
  · cases h
theorem five_at (k : Nat) (hk : k < 5) (s : ByteArray) : ∃ u : ByteArray, #[Value.string ⟨#[]⟩, .string ⟨#[33]⟩, .string ⟨#[33, 120]⟩, .string ⟨#[33, 33, 105, 110, 116]⟩, .string s][k]? = some (.string u) ∧ u.size ≤ s.size + 5 := by
  obtain rfl | rfl | rfl | rfl | rfl : k = 0 ∨ k = 1 ∨ k = 2 ∨ k = 3 ∨ k = 4 := by omega
  · exact ⟨_, rfl, Nat.zero_le _⟩
  · exact ⟨_, rfl, by show 1 ≤ _; omega⟩
  · exact ⟨_, rfl, by show 2 ≤ _; omega⟩
  · exact ⟨_, rfl, by show 5 ≤ _; omega⟩
  · exact ⟨_, rfl, by omega⟩
set_option maxHeartbeats 4000000 in
set_option maxRecDepth 100000 in
theorem walk (a0 : Value) (a1 : Int) (a2 : Int) (a3 : ByteArray) (a4 : Bool) (a5 : Bool) (a6 : Int) (a7 : Int) (a8 : ByteArray) (w : World) (w0 : IsPlan w a0) (w1 : (Lit.int .i64 a1).wf = true) (w2 : (Lit.int .i64 a2).wf = true) (w3 : a3.size ≤ maxLen) (w6 : (Lit.int .i64 a6).wf = true) (w7 : (Lit.int .i64 a7).wf = true) (w8 : a8.size ≤ maxLen) (hSM : Shorts w ∧ MaxL w) :
    Calls Tryz.prog 4 #[a0, .int .i64 a1, .int .i64 a2, .string a3, .bool a4, .bool a5, .int .i64 a6, .int .i64 a7, .string a8] w fun e w' => e = .returned (.bool true) ∧ Below w.heap.size w w' := by
  obtain ⟨A1, n1, c1, A2, n2, c2, rfl, hp⟩ := w0
  have hb1 := bounds_i64 w1
  have hb2 := bounds_i64 w2
  have hb6 := bounds_i64 w6
  have hb7 := bounds_i64 w7
  have HS := Lib.hid hSM.1
  have HM := Lib.hid hSM.2
  have HP := Lib.hid hp
  have HW3 := Lib.hid w3
  have HW8 := Lib.hid w8
  have h48 : pySz 4 ≤ 30000 := by decide
  clear hSM w1 w2 w6 w7 hp w3 w8
  obtain ⟨W0, hW0⟩ : ∃ W0, w.alloc (.cells #[.slice A1 n1 c1, .slice A2 n2 c2] 25) = W0 := ⟨_, rfl⟩
  have HB0 : Hid (Below w.heap.size w W0) := by show Below _ _ _; rw [← hW0]; exact (Below.refl _ _).alloc (Nat.le_refl _) _
  have pq0 : W0.cell? ⟨w.heap.size, 0, none⟩ = some (.slice A1 n1 c1) := by rw [← hW0, World.cell?_alloc_mark]; rfl
  have pq1 : W0.cell? ⟨w.heap.size, 1, none⟩ = some (.slice A2 n2 c2) := by rw [← hW0, World.cell?_alloc_mark]; rfl
  go_enter Tryz.func4, Tryz.ntmps4
  go_wp2_with fail
  clear hW0 pq0 pq1
  refine (play_at HP.out HB0.out).mono ?_
  rintro e W1 ⟨s, hs, rfl, hbb⟩
  have hsz : s.size ≤ 30000 := by have := pyN_len 4 _ hs; rw [byt_len] at this; omega
  have HB1 := Lib.hid hbb
  clear hs hbb h48 HB0
  go_wp2_with fail
  refine (spoil_at s hsz a1 a2 hb1 hb2 W1).mono ?_
  rintro e W2 ⟨t0, ht0, rfl, hbb⟩
  have HB2 := Lib.hid (below_step HB1.out hbb)
  clear hbb HB1
  have ht0z : t0.size ≤ 40000 := by omega
  clear ht0 hsz
  go_upto_if 29 with fail
  go_cut [19] from 30 to 31 (fun v U => ∃ t : ByteArray, v = .string t ∧ t.size ≤ 40000 ∧ W2 = U)
  case first =>
    cases a4 with
    | false =>
      go_wp2_with fail
      go_meet
      exact ⟨t0, rfl, ht0z, rfl⟩
    | true =>
      go_wp2_with fail
      refine (text_any a3 60 _ (by omega) HW3.out).mono ?_
      rintro e w' ⟨t1, _, ht, rfl, rfl⟩
      go_wp2_with fail
      go_meet
      exact ⟨t1, rfl, by omega, rfl⟩
  case rest =>
    obtain ⟨t, rfl, htz, rfl⟩ := hcut
    obtain ⟨r, hr⟩ : ∃ r, inParse (byt t) a5 = r := ⟨_, rfl⟩
    have HR := Lib.hid hr
    clear hr ht0z
    go_wp2_with fail
    refine (parse_at HB2.out HS.out HM.out t (by omega) a5 r HR.out).mono ?_
    intro e W3 h3
    have hq : ∃ v l q, e = .returned (.tuple #[v, .int .i64 q]) ∧ ListP W3 v l ∧ Below w.heap.size w W3 ∧ (∃ z, r = .error z ∧ z = q ∧ l = [] ∨ r = .ok l ∧ q = 0) := by
      cases r with
      | error q =>
        obtain ⟨rfl, hb, _⟩ := h3
        exact ⟨_, [], q, rfl, ⟨0, [], Nds.nil _ _, rfl⟩, hb, q, .inl ⟨rfl, rfl, rfl⟩⟩
      | ok l =>
        obtain ⟨v, rfl, hL, hb⟩ := h3
        exact ⟨v, l, 0, rfl, hL, hb, 0, .inr ⟨rfl, rfl⟩⟩
    obtain ⟨v, l, q, rfl, hL, hb, hrq⟩ := hq
    have HL := Lib.hid hL
    have HB3 := Lib.hid hb
    have HRQ := Lib.hid hrq
    clear h3 hL hb hrq
    go_wp2_with fail
    refine (rparse_at W3 t (by omega) a5 r HR.out).mono ?_
    intro e W4 h4
    have hq : ∃ v2 P, e = .returned (.tuple #[v2, .int .i64 q]) ∧ Nds W3.heap.size W4 v2 P ∧ lst P = l ∧ Below W3.heap.size W3 W4 := by
      cases r with
      | error z =>
        obtain ⟨rfl, hb, _⟩ := h4
        obtain ⟨z', h | h⟩ := HRQ.out
        · obtain ⟨h1, h2, h3⟩ := h
          injection h1 with h1
          subst h1 h2 h3
          exact ⟨_, [], rfl, Nds.nil _ _, rfl, hb⟩
        · cases h.1
      | ok l' =>
        obtain ⟨v2, P, rfl, hN, hl, hb⟩ := h4
        obtain ⟨z', h | h⟩ := HRQ.out
        · cases h.1
        · obtain ⟨h1, h2⟩ := h
          injection h1 with h1
          subst h1 h2
          exact ⟨v2, P, rfl, hN, hl, hb⟩
    obtain ⟨v2, P2, rfl, hN2, hl2, hb4⟩ := hq
    obtain ⟨B1, P1, hN1, hl1⟩ := HL.out.below hb4
    have hsizes : l.length ≤ 65537 ∧ ∀ x ∈ l, x.kids.length ≤ 65537 := by
      obtain ⟨z', h | h⟩ := HRQ.out
      · rw [h.2.2]; exact ⟨Nat.zero_le _, fun x hx => by cases hx⟩
      · exact parse_size (HR.out.trans h.1)
    obtain ⟨m, hm⟩ : ∃ m, P1.length = m := ⟨_, rfl⟩
    have hmm : P2.length = m := by rw [← hm, ← lst_len P1, ← lst_len P2, hl1, hl2]
    have hml : m ≤ 65537 := by rw [← hm, ← lst_len, hl1]; exact hsizes.1
    obtain ⟨A3, c3, rfl, _⟩ := own_form hN1.row
    obtain ⟨A4, c4, rfl, _⟩ := own_form hN2.row
    rw [hm] at hN1 ⊢
    rw [hmm] at hN2 ⊢
    have HN := Lib.hid (And.intro hN1 hN2)
    have HLL := Lib.hid (And.intro hm (And.intro hl1 (And.intro hl2 hsizes.2)))
    have HB4 := Lib.hid (below_step HB3.out hb4)
    clear h4 hN1 hN2 hm hmm hl1 hl2 hsizes hb4 HL HRQ HB3
    go_wp2_with fail
    refine (within_nat a6 6 _ (by omega) (by omega) hb6).mono ?_
    rintro e w' ⟨kd, hkd, rfl, rfl⟩
    go_wp2_with fail
    refine (within_nat a7 9 _ (by omega) (by omega) hb7).mono ?_
    rintro e w' ⟨sy, hsy, rfl, rfl⟩
    go_wp2_with fail
    refine (text_any a8 9 _ (by omega) HW8.out).mono ?_
    rintro e w' ⟨t8, _, ht8, rfl, rfl⟩
    obtain ⟨W5, hW5⟩ : ∃ W5, W4.alloc (.cells #[.string ⟨#[]⟩, .string ⟨#[33]⟩, .string ⟨#[33, 120]⟩, .string ⟨#[33, 33, 105, 110, 116]⟩, .string t8] 9) = W5 := ⟨_, rfl⟩
    have hb5 : Below W4.heap.size W4 W5 := by rw [← hW5]; exact (Below.refl _ _).alloc (Nat.le_refl _) _
    have HB5 := Lib.hid (below_step HB4.out hb5)
    have HN5 := Lib.hid (And.intro (HN.out.1.below hb5) (HN.out.2.below hb5))
    have HT5 : Hid (∀ k, k < 5 → ∃ u : ByteArray, W5.cell? ⟨W4.heap.size, k, none⟩ = some (.string u) ∧ u.size ≤ 14) := fun k hk => by
      obtain ⟨u, h1, h2⟩ := five_at k hk t8
      exact ⟨u, by rw [← hW5, World.cell?_alloc_mark]; exact h1, by omega⟩
    clear hb5 HN HB4
    go_wp2_with fail
    refine (within_nat a1 5 _ (by omega) (by omega) hb1).mono ?_
    rintro e w6 ⟨j, hj, rfl, rfl⟩
    obtain ⟨tg, htg, htz2⟩ := HT5.out j hj
    have dj : (j : Int) < 5 := by omega
    clear hW5
    go_wp2_with fail
    refine (nodes_same HN5.out.1 HN5.out.2 HLL.out.1 (by rw [HLL.out.2.1, HLL.out.2.2.1]) (by omega) (fun x hx => by rw [HLL.out.2.1] at hx; have := HLL.out.2.2.2 x hx; omega)).mono ?_
    rintro e W6 ⟨rfl, hb6'⟩
    have HB6 := Lib.hid (below_step HB5.out hb6')
    clear hb6' HN5 HB5 htg
    obtain ⟨rt, hrt⟩ : ∃ rt, strOfNums (inTag (kd : Int) (sy : Int) (byt tg) (byt t)) = rt := ⟨_, rfl⟩
    have HRT := Lib.hid hrt
    clear hrt
    go_wp2_with fail
    refine (tag_at HB6.out (kd : Int) (sy : Int) tg t (by omega) rt HRT.out).mono ?_
    rintro e W7 ⟨rfl, hb7'⟩
    have HB7 := Lib.hid hb7'
    clear hb7' HB6
    go_wp2_with fail
    refine (rtag_at HB7.out (kd : Int) (sy : Int) tg t (by omega) rt HRT.out).mono ?_
    rintro e W8 ⟨rfl, hb8'⟩
    have HB8 := Lib.hid hb8'
    clear hb8' HB7
    go_wp2_with fail
    refine (wakes_at HB8.out HS.out HM.out).mono ?_
    rintro e W9 ⟨rfl, hb9⟩
    have HB9 := Lib.hid hb9
    clear hb9
    go_wp2_with fail
    go_ret
    exact ⟨rfl, HB9.out⟩


set_option maxRecDepth 100000 in
theorem lifted (os : Os) (started : os.Started) (H : Type) (enc : TypeId × Value → H) :
    ReturnsInHanded {} Tryz.checked os 4 .any (fun w args => (Rows.inlineParsesSpec.pre enc Tryz.prog Tryz.f4 Rows.inlineParsesRow.domain false w args ∧ laidMetH Tryz.prog Rows.inlineParsesRow.laid w) ∧ sizedMet enc Tryz.prog Tryz.f4 (OpenSpec.ofChange Rows.inlineParsesSpec) false w args)
      (Rows.inlineParsesSpec.post enc Tryz.prog Tryz.f4 false true false false) := by
  refine returns_listed (C := Tryz.checked) (X := fun w _ => laidMetH Tryz.prog Rows.inlineParsesRow.laid w) (fun _ _ _ hh h => h.of_heap hh) own started (by kernel_rfl) Tryz.func4
    (ChangeSpec.witness_shaped (enc := enc) (C := Tryz.checked) (os := os) (X := fun w _ => laidMetH Tryz.prog Rows.inlineParsesRow.laid w) false (World.laidAll Tryz.prog os Rows.inlineParsesRow.laid) #[.agg #[.slice none 0 0, .slice none 0 0], .int .i64 0, .int .i64 0, .string ByteArray.empty, .bool false, .bool false, .int .i64 0, .int .i64 0, .string ByteArray.empty] 8 (World.laidAll_os _ _ _)
      (World.shaped_of_ZipB (by kernel_rfl) (by kernel_rfl)) (by kernel_rfl) (by kernel_rfl) (by kernel_rfl)
      (by rw [MakeChecks.laidMetH_plain _ _ _ (by kernel_rfl)]; exact laidMet_laidAll _ (by kernel_rfl) (by kernel_rfl))) ?_
  intro W base args ds gs before hval0 hW hX hsh
  have hval : ∀ (j : Nat) t v, Tryz.f4.params[j]? = some t → args[j]? = some v → Value.okWide Tryz.prog W .any base t v := hval0
  have hW' := hW
  obtain ⟨p, q, hA0, hV, rfl, hfz, hnd⟩ := hW
  have hA : DataW.TrodAll enc Tryz.prog W 0 (fun _ => true) true Tryz.f4.params.toList args.toList ds p := hA0
  rw [Tryz.params4] at hA hval
  obtain ⟨v0, vs0, d0, ds0, p0, q0, hargs, rfl, rfl, h0, r0⟩ := trodAll_cons hA
  obtain ⟨v1, vs1, d1, ds1, p1, q1, rfl, rfl, rfl, h1, r1⟩ := trodAll_cons r0
  obtain ⟨v2, vs2, d2, ds2, p2, q2, rfl, rfl, rfl, h2, r2⟩ := trodAll_cons r1
  obtain ⟨v3, vs3, d3, ds3, p3, q3, rfl, rfl, rfl, h3, r3⟩ := trodAll_cons r2
  obtain ⟨v4, vs4, d4, ds4, p4, q4, rfl, rfl, rfl, h4, r4⟩ := trodAll_cons r3
  obtain ⟨v5, vs5, d5, ds5, p5, q5, rfl, rfl, rfl, h5, r5⟩ := trodAll_cons r4
  obtain ⟨v6, vs6, d6, ds6, p6, q6, rfl, rfl, rfl, h6, r6⟩ := trodAll_cons r5
  obtain ⟨v7, vs7, d7, ds7, p7, q7, rfl, rfl, rfl, h7, r7⟩ := trodAll_cons r6
  obtain ⟨v8, vs8, d8, ds8, p8, q8, rfl, rfl, rfl, h8, r8⟩ := trodAll_cons r7
  obtain ⟨rfl, rfl, rfl⟩ := trodAll_nil r8
  obtain rfl : args = #[v0, v1, v2, v3, v4, v5, v6, v7, v8] := by cases args; simp_all
  obtain ⟨rfl, rfl⟩ := trodVars_none hV
  have k0 := h0
  have lt0 : ∀ x ∈ p0, x.block < W.heap.size := by obtain ⟨m, hm⟩ := k0; exact DataW.trod_lt m _ _ _ hm
  have w0 := open_plan (hval 0 25 v0 rfl rfl) h0
  obtain ⟨a1, rfl, rfl, rfl, w1⟩ := open_int Tryz.underlying3 (hval 1 3 v1 rfl rfl) h1
  obtain ⟨a2, rfl, rfl, rfl, w2⟩ := open_int Tryz.underlying3 (hval 2 3 v2 rfl rfl) h2
  obtain ⟨a3, rfl, rfl, rfl, w3⟩ := open_string Tryz.underlying9 (hval 3 9 v3 rfl rfl) h3
  obtain ⟨a4, rfl, rfl, rfl⟩ := open_bool Tryz.underlying4 (hval 4 4 v4 rfl rfl) h4
  obtain ⟨a5, rfl, rfl, rfl⟩ := open_bool Tryz.underlying4 (hval 5 4 v5 rfl rfl) h5
  obtain ⟨a6, rfl, rfl, rfl, w6⟩ := open_int Tryz.underlying3 (hval 6 3 v6 rfl rfl) h6
  obtain ⟨a7, rfl, rfl, rfl, w7⟩ := open_int Tryz.underlying3 (hval 7 3 v7 rfl rfl) h7
  obtain ⟨a8, rfl, rfl, rfl, w8⟩ := open_string Tryz.underlying9 (hval 8 9 v8 rfl rfl) h8
  clear hA0 hval0
  refine (walk v0 a1 a2 a3 a4 a5 a6 a7 a8 W w0 w1 w2 w3 w6 w7 w8 (⟨shorts_in hX (by kernel_rfl) (List.mem_of_getElem? (i := 1) rfl), maxL_shaped hsh⟩)).mono fun e W' ⟨he, bel⟩ => ?_
  subst he
  exact ⟨_, rfl, _, _, _, [], _, [], hW', trodAll_mk1 (shut_bool Tryz.underlying4 _), (trodAll_cons_mk (Below.trod laidOut (by kernel_rfl) (of_decide_eq_true (by kernel_rfl)) k0 bel lt0) (trodAll_cons_mk (shut_int Tryz.underlying3 w1) (trodAll_cons_mk (shut_int Tryz.underlying3 w2) (trodAll_cons_mk (shut_string Tryz.underlying9 w3) (trodAll_cons_mk (shut_bool Tryz.underlying4 _) (trodAll_cons_mk (shut_bool Tryz.underlying4 _) (trodAll_cons_mk (shut_int Tryz.underlying3 w6) (trodAll_cons_mk (shut_int Tryz.underlying3 w7) (trodAll_cons_mk (shut_string Tryz.underlying9 w8) trodAll_mk0))))))))), rfl, bel.frame _, fun h => by cases h⟩

theorem over : Rows.inlineParsesRow.holds Tryz.pinned (OpenSpec.ofChange Rows.inlineParsesSpec) :=
  OpenClaim.holds_of_wide 4 Tryz.f4 rfl rfl rfl rfl rfl rfl rfl ⟨rfl, rfl, rfl, rfl, rfl⟩ rfl rfl rfl rfl rfl (by kernel_rfl) Tryz.func4 (by kernel_rfl)
    (of_decide_eq_true (by kernel_rfl)) (by unfold Func.isWrapper; first | (rw [if_pos (by decide +kernel)]; kernel_rfl) | (rw [if_neg (by decide +kernel)]; exact ⟨rfl, rfl⟩))
    (fun os started H enc _ => lifted os started H enc)

theorem proved : Rows.InlineParsesCardSaid :=
  Claim7.holds_tied_plain_at .later [] [.data, .data, .pinned] true (true, "5386a357bab227d37026cd594ddba446b339da503d7c645c7399ba97084ed683") false over (fun _ h => by cases h) (by kernel_rfl) (fun _ h => by cases h) inlineParses_row_tie rfl ⟨rfl, rfl⟩ (by kernel_rfl) rfl
    (fun f fn hf hfn => by
      obtain rfl : f = 4 := Option.some.inj ((show Tryz.prog.funcNamed Rows.inlineParsesRow.func = some 4 by kernel_rfl).symm.trans hf) |>.symm
      obtain rfl : fn = Tryz.f4 := (Option.some.inj (Tryz.func4.symm.trans hfn)).symm
      exact ⟨by kernel_rfl, fun j t ht => by
        rw [Tryz.params4] at ht
        have hm : t ∈ [25, 3, 3, 9, 4, 4, 3, 3, 9] := by simpa using Array.mem_of_getElem? ht
        have hall : ([25, 3, 3, 9, 4, 4, 3, 3, 9].all fun u => !Tryz.prog.wantsStandIn u) = true := by kernel_rfl
        exact (show Tryz.prog.wantsStandIn t = false by simpa using List.all_eq_true.1 hall t hm)⟩)
    (by kernel_rfl)
#print axioms proved
end Go.Proofs.YtocjegmacpmpoaaGreatDoor.inlineParses
