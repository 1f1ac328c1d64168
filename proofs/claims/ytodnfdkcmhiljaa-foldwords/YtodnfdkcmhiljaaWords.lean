/-
  Proved: the law 'scholium/scholiumlaw07.FoldWords' returns true for every input, and every argument reads as it did before. No conditions.
-/
import Derived.Test.YtodnfdkcmhiljaaRows
import Derived.Test.YtodnfdkcmhiljaaFdLaw
import Derived.Test.YtodnfdkcmhiljaaKeep
import Derived.WalkKit
import Derived.ProofKit
import Derived.OpenShut
import Derived.ShutString
import Derived.ChangeOld
import Derived.Below
namespace Go.Proofs.Ytodnfdkcmhiljaa.foldWords
open Go.ChangeShapes Go.WideShapes Go.ChangeAt Go.RowKit
open Go.ChangeMaps (open_string shut_string)
set_option linter.unusedVariables false

theorem own : ownKnob Try.prog.godebug = none := by kernel_rfl
theorem laidOut : laidOutB Try.prog = true := by kernel_rfl

/-- A slice of integers that came in. -/
def IsRow (k : IntKind) (w : World) (a : Option Addr) (len cap : Nat) (zs : List Int) : Prop :=
  (a = none ∧ len = 0 ∧ cap = 0 ∧ zs = []) ∨
  ∃ x, a = some x ∧ len ≤ cap ∧ cap ≤ maxLen ∧ zs.length = cap ∧ (∀ i, i < zs.length → w.cell? (x.add i) = some (.int k (zs.getD i 0))) ∧ ∀ n ∈ zs, (Lit.int k n).wf = true

/-- The rows that the words make, and what they come to. -/
def rowsW (gap : Nat) : Nat → List (List Int)
  | 0 => []
  | i + 1 => rowsW gap i ++ (if i = 0 then [] else List.replicate gap []) ++ [[97 + (i : Int)]]
def wantW (gap : Nat) : Nat → List Int
  | 0 => []
  | i + 1 => wantW gap i ++ (if i = 0 then [] else if gap = 0 then [32] else brs gap) ++ [97 + (i : Int)]
theorem words_all : ∀ n, n < 5 → ∀ g, g < 4 → valueF ⟨true, true, false, 0⟩ (rowsW g (2 + n)) = wantW g (2 + n) := by decide +kernel

/-- What stands of the words. -/
def WordsAt (w W : World) (A : Option Addr) (m cap : Nat) (u : ByteArray) (rows : List (List Int)) (want : List Int) : Prop :=
  ∃ l : List ByteArray, l.map byt = rows ∧ byt u = want ∧ OwnT w W A m cap l ∧ ∀ s ∈ l, s.size ≤ 1
theorem words_row {w W : World} {A : Option Addr} {m cap : Nat} {u : ByteArray} {rows : List (List Int)} {want : List Int} (h : WordsAt w W A m cap u rows want) (s t : ByteArray) (hs : s.size ≤ 1) (hm : m ≤ 1000) (g : Nat) (hg : g = W.heap.size) :
    ∃ A' cap' W', (Builtin.append_ #[22, 22] 22 #[.slice A m cap, .slice (some ⟨g, 0, none⟩) 1 1]).run Try.prog (W.alloc (.cells #[.string s] 9)) = .ok (.slice A' (m + 1) cap') W' ∧ WordsAt w W' A' (m + 1) cap' (u ++ t) (rows ++ [byt s]) (want ++ byt t) := by
  obtain ⟨l, h1, h2, h3, h4⟩ := h
  obtain ⟨A', cap', W', hrun, hown⟩ := append_txt h3 [s] 1 rfl #[.string s] rfl (by omega) g hg (m + 1) rfl (l ++ [s]) rfl
  refine ⟨A', cap', W', hrun, l ++ [s], by simp [h1], by rw [byt_append, h2], hown, ?_⟩
  intro x hx
  rcases List.mem_append.1 hx with h | h
  · exact h4 x h
  · simp at h; subst h; exact hs
theorem WordsAt.below {w W W' : World} {A : Option Addr} {m cap : Nat} {u : ByteArray} {rows : List (List Int)} {want : List Int} (h : WordsAt w W A m cap u rows want) (hb : Below W.heap.size W W') : WordsAt w W' A m cap u rows want := by
  obtain ⟨l, h1, h2, h3, h4⟩ := h
  exact ⟨l, h1, h2, h3.below hb, h4⟩

set_option maxHeartbeats 4000000 in
set_option maxRecDepth 100000 in
theorem walk (a0 : Int) (a1 : Int) (w : World) (w0 : (Lit.int .i64 a0).wf = true) (w1 : (Lit.int .i64 a1).wf = true) :
    Calls Try.prog 10 #[.int .i64 a0, .int .i64 a1] w fun e w' => e = .returned (.bool true) ∧ Below w.heap.size w w' := by
  have hb0 := bounds_i64 w0
  have hb1 := bounds_i64 w1
  clear w0 w1
  go_enter Try.func10, Try.ntmps10
  go_wp2_with fail
  refine (within_nat a0 5 w (by omega) (by omega) hb0).mono ?_
  rintro e w' ⟨n, hn, rfl, rfl⟩
  go_wp2_with fail
  refine (within_nat a1 4 w (by omega) (by omega) hb1).mono ?_
  rintro e w' ⟨gap, hgap, rfl, rfl⟩
  rcases Nat.eq_zero_or_pos gap with rfl | hgp
  · clear hgap
    go_wp2_with fail
    go_loopw [5, 6, 7] (fun v s i W => ∃ (j m cap : Nat) (A : Option Addr) (u : ByteArray), j ≤ 2 + n ∧ m ≤ j * 4 ∧ v = .slice A m cap ∧ s = .string u ∧ i = .int .i64 (j : Int) ∧ u.size ≤ j * 4 ∧ Hid (WordsAt w W A m cap u (rowsW 0 j) (wantW 0 j))) (fun _ _ i _ => 2 + n - (intOf i).toNat)
    case atStart => exact ⟨0, 0, 0, none, ⟨#[]⟩, by omega, by omega, rfl, rfl, rfl, by decide, [], rfl, rfl, OwnT.nil w w (Below.refl _ _), by simp⟩
    case round =>
      obtain ⟨j, m, cap, A, u, hj, hm, rfl, rfl, rfl, hus, HK⟩ := hrel
      by_cases hlt : j < 2 + n
      · have d1 : (j : Int) < 2 + (n : Int) := by omega
        have hcv := run_string_rd (wr.alloc (.cells #[.int .u8 (97 + (j : Int))] 5)) (some ⟨wr.heap.size, 0, none⟩) 1 1 [97 + (j : Int)] rfl (RdB.new rfl (cellsB_at (zs := [97 + (j : Int)])))
        have hbz : byt (strOfNums [97 + (j : Int)]) = [97 + (j : Int)] := byt_strOfNums _ (by intro y hy; simp at hy; omega)
        generalize strOfNums [97 + (j : Int)] = r at *
        have hrs : r.size ≤ 1 := by have := byt_len r; rw [hbz] at this; simp at this; omega
        have HZ := Lib.hid hbz
        clear hbz
        have HV : Hid (WordsAt w (wr.alloc (.cells #[.int .u8 (97 + (j : Int))] 5)) A m cap u (rowsW 0 j) (wantW 0 j)) := HK.out.below ((Below.refl _ _).alloc (Nat.le_refl _) _)
        by_cases hj0 : j = 0
        · have d0 : decide (0 < j) = false := decide_eq_false (by omega)
          have d0' : ¬ 0 < j := by omega
          have HJ0 := Lib.hid hj0
          clear hj0
          obtain ⟨A2, cap2, W2, hrun, hat⟩ := words_row HV.out r r hrs (by omega) (wr.heap.size + 1) (by simp)
          have HRUN := Lib.hid hrun
          have HAT := Lib.hid hat
          clear hrun hat
          go_wp2_with (at_builtin; refine wpList_append_known rfl _ (.tmp 43) 22 rfl _ _ _ _ rfl rfl HRUN.out ?_)
          go_roundw
          case rel =>
            refine ⟨j + 1, m + 1, cap2, A2, u ++ r, by omega, by omega, rfl, rfl, by go_num, by rw [ByteArray.size_append]; omega, ?_⟩
            have h := HAT.out
            rw [HZ.out] at h
            simp only [rowsW, wantW]
            rw [if_pos HJ0.out, if_pos HJ0.out, List.append_nil, List.append_nil]
            exact h
          case measure => simp [intOf]; omega
        · have d0 : (0 : Int) < (j : Int) := by omega
          have d0n : 0 < j := by omega
          have d0d : decide (0 < j) = true := decide_eq_true d0n
          go_wp2_with fail
          clear hcv
          obtain ⟨wo, hwo⟩ : ∃ x, x = wr.alloc (.cells #[.int .u8 (97 + (j : Int))] 5) := ⟨_, rfl⟩
          rw [← hwo] at HV ⊢
          clear hwo HK
          go_loopw [5, 6, 9] (fun v s i W => i = .int .i64 0 ∧ ∃ (m2 cap2 : Nat) (A2 : Option Addr) (u2 : ByteArray), m2 ≤ j * 4 ∧ v = .slice A2 m2 cap2 ∧ s = .string u2 ∧ u2.size ≤ j * 4 ∧ Hid (WordsAt w W A2 m2 cap2 u2 (rowsW 0 j) (wantW 0 j))) (fun _ _ _ _ => 0)
          case atStart => exact ⟨rfl, m, cap, A, u, by omega, rfl, rfl, by omega, HV.out⟩
          case round =>
            obtain ⟨rfl, m2, cap2, A2, u2, hm2, rfl, rfl, hus2, HK⟩ := hrel
            obtain ⟨A3, cap3, W3, hrun, hat⟩ := words_row HK.out r (⟨#[32]⟩ ++ r) hrs (by omega) wr.heap.size rfl
            have HRUN := Lib.hid hrun
            have HAT := Lib.hid hat
            clear hrun hat
            go_wp2_with (at_builtin; refine wpList_append_known rfl _ (.tmp 43) 22 rfl _ _ _ _ rfl rfl HRUN.out ?_)
            refine ⟨⟨j + 1, m2 + 1, cap3, A3, u2 ++ ⟨#[32]⟩ ++ r, by omega, by omega, rfl, rfl, by go_num, ?_, ?_⟩, by simp [intOf]; omega⟩
            · rw [ByteArray.size_append, ByteArray.size_append]; show u2.size + 1 + r.size ≤ _; omega
            · have h := HAT.out
              rw [HZ.out] at h
              simp only [rowsW, wantW]
              rw [if_neg hj0, if_neg hj0, if_pos trivial]
              obtain ⟨l, h1, h2, h3, h4⟩ := h
              refine ⟨l, by rw [h1]; simp, ?_, h3, h4⟩
              rw [byt_append, byt_append, HZ.out] at h2 ⊢
              rw [List.append_assoc, h2, List.append_assoc]
              rfl
      · obtain rfl : j = 2 + n := by omega
        obtain ⟨l, h1, h2, h3, h4⟩ := HK.out
        have HL := Lib.hid (And.intro h1 (And.intro h2 (And.intro h3 h4)))
        clear h1 h2 h3 h4 HK
        go_wp2_with fail
        refine (value_any A m cap ⟨true, true, false, 0⟩ l wr HL.out.2.2.1.1 HL.out.2.2.1.2.2.2.1 HL.out.2.2.1.2.2.2.2.2 (by omega) (fun s hs => Nat.le_trans (HL.out.2.2.2 s hs) (by omega)) HL.out.2.2.1.rd).mono ?_
        rintro e W3 ⟨s, hs, rfl, hb3⟩
        obtain rfl : s = u := byt_inj (hs.trans (by rw [HL.out.1, words_all n hn 0 (by omega), HL.out.2.1]))
        have HB3 := Lib.hid (below_step HL.out.2.2.1.2.2.1 hb3)
        clear hs hb3
        go_wp2_with fail
        refine (wakes_any W3).mono ?_
        rintro e W4 ⟨rfl, hb4⟩
        have HB4 := Lib.hid (below_step HB3.out hb4)
        clear hb4
        go_wp2
        go_ret
        exact ⟨rfl, HB4.out⟩
  · have hgi : (0 : Int) < (gap : Int) := by omega
    go_wp2_with fail
    go_loopw [5, 6, 7] (fun v s i W => ∃ (j m cap : Nat) (A : Option Addr) (u : ByteArray), j ≤ 2 + n ∧ m ≤ j * 4 ∧ v = .slice A m cap ∧ s = .string u ∧ i = .int .i64 (j : Int) ∧ u.size ≤ j * 4 ∧ Hid (WordsAt w W A m cap u (rowsW gap j) (wantW gap j))) (fun _ _ i _ => 2 + n - (intOf i).toNat)
    case atStart => exact ⟨0, 0, 0, none, ⟨#[]⟩, by omega, by omega, rfl, rfl, rfl, by decide, [], rfl, rfl, OwnT.nil w w (Below.refl _ _), by simp⟩
    case round =>
      obtain ⟨j, m, cap, A, u, hj, hm, rfl, rfl, rfl, hus, HK⟩ := hrel
      by_cases hlt : j < 2 + n
      · have d1 : (j : Int) < 2 + (n : Int) := by omega
        have hcv := run_string_rd (wr.alloc (.cells #[.int .u8 (97 + (j : Int))] 5)) (some ⟨wr.heap.size, 0, none⟩) 1 1 [97 + (j : Int)] rfl (RdB.new rfl (cellsB_at (zs := [97 + (j : Int)])))
        have hbz : byt (strOfNums [97 + (j : Int)]) = [97 + (j : Int)] := byt_strOfNums _ (by intro y hy; simp at hy; omega)
        generalize strOfNums [97 + (j : Int)] = r at *
        have hrs : r.size ≤ 1 := by have := byt_len r; rw [hbz] at this; simp at this; omega
        have HZ := Lib.hid hbz
        clear hbz
        have HV : Hid (WordsAt w (wr.alloc (.cells #[.int .u8 (97 + (j : Int))] 5)) A m cap u (rowsW gap j) (wantW gap j)) := HK.out.below ((Below.refl _ _).alloc (Nat.le_refl _) _)
        by_cases hj0 : j = 0
        · have d0 : decide (0 < j) = false := decide_eq_false (by omega)
          have d0' : ¬ 0 < j := by omega
          have HJ0 := Lib.hid hj0
          clear hj0
          obtain ⟨A2, cap2, W2, hrun, hat⟩ := words_row HV.out r r hrs (by omega) (wr.heap.size + 1) (by simp)
          have HRUN := Lib.hid hrun
          have HAT := Lib.hid hat
          clear hrun hat
          go_wp2_with (at_builtin; refine wpList_append_known rfl _ (.tmp 43) 22 rfl _ _ _ _ rfl rfl HRUN.out ?_)
          go_roundw
          case rel =>
            refine ⟨j + 1, m + 1, cap2, A2, u ++ r, by omega, by omega, rfl, rfl, by go_num, by rw [ByteArray.size_append]; omega, ?_⟩
            have h := HAT.out
            rw [HZ.out] at h
            simp only [rowsW, wantW]
            rw [if_pos HJ0.out, if_pos HJ0.out, List.append_nil, List.append_nil]
            exact h
          case measure => simp [intOf]; omega
        · have d0 : (0 : Int) < (j : Int) := by omega
          have d0n : 0 < j := by omega
          have d0d : decide (0 < j) = true := decide_eq_true d0n
          go_wp2_with fail
          clear hcv
          obtain ⟨wo, hwo⟩ : ∃ x, x = wr.alloc (.cells #[.int .u8 (97 + (j : Int))] 5) := ⟨_, rfl⟩
          rw [← hwo] at HV ⊢
          clear hwo HK
          go_loopw [5, 6, 9] (fun v s i W => ∃ (k m2 cap2 : Nat) (A2 : Option Addr) (u2 : ByteArray), k ≤ gap ∧ m2 ≤ j * 4 + k ∧ v = .slice A2 m2 cap2 ∧ s = .string u2 ∧ i = .int .i64 (k : Int) ∧ u2.size ≤ j * 4 + k ∧ Hid (WordsAt w W A2 m2 cap2 u2 (rowsW gap j ++ List.replicate k []) (wantW gap j ++ brs k))) (fun _ _ i _ => gap - (intOf i).toNat)
          case atStart =>
            refine ⟨0, m, cap, A, u, by omega, by omega, rfl, rfl, rfl, by omega, ?_⟩
            have h := HV.out
            simp only [List.replicate_zero, brs, List.append_nil]
            exact h
          case round =>
            obtain ⟨k, m2, cap2, A2, u2, hk, hm2, rfl, rfl, rfl, hus2, HK⟩ := hrel
            by_cases hkg : k < gap
            · have dk : (k : Int) < (gap : Int) := by omega
              obtain ⟨A3, cap3, W3, hrun, hat⟩ := words_row HK.out ⟨#[]⟩ ⟨#[10]⟩ (by decide) (by omega) wr.heap.size rfl
              have HRUN := Lib.hid hrun
              have HAT := Lib.hid hat
              clear hrun hat
              go_wp2_with (at_builtin; refine wpList_append_known rfl _ (.tmp 33) 22 rfl _ _ _ _ rfl rfl HRUN.out ?_)
              go_roundw
              case rel =>
                refine ⟨k + 1, m2 + 1, cap3, A3, u2 ++ ⟨#[10]⟩, by omega, by omega, rfl, rfl, by go_num, by rw [ByteArray.size_append]; show u2.size + 1 ≤ _; omega, ?_⟩
                have h := HAT.out
                rw [List.append_assoc, List.append_assoc] at h
                rw [List.replicate_succ', brs, List.replicate_succ']
                exact h
              case measure => simp [intOf]; omega
            · obtain rfl : k = gap := by omega
              have dk0 : ((k : Int) == 0) = false := beq_eq_false_iff_ne.2 (by omega)
              obtain ⟨A3, cap3, W3, hrun, hat⟩ := words_row HK.out r r hrs (by omega) wr.heap.size rfl
              have HRUN := Lib.hid hrun
              have HAT := Lib.hid hat
              clear hrun hat
              go_wp2_with (at_builtin; refine wpList_append_known rfl _ (.tmp 43) 22 rfl _ _ _ _ rfl rfl HRUN.out ?_)
              refine ⟨⟨j + 1, m2 + 1, cap3, A3, u2 ++ r, by omega, by omega, rfl, rfl, by go_num, ?_, ?_⟩, by simp [intOf]; omega⟩
              · rw [ByteArray.size_append]; omega
              · have h := HAT.out
                rw [HZ.out] at h
                simp only [rowsW, wantW]
                rw [if_neg hj0, if_neg hj0, if_neg (by omega)]
                exact h
      · obtain rfl : j = 2 + n := by omega
        obtain ⟨l, h1, h2, h3, h4⟩ := HK.out
        have HL := Lib.hid (And.intro h1 (And.intro h2 (And.intro h3 h4)))
        clear h1 h2 h3 h4 HK
        go_wp2_with fail
        refine (value_any A m cap ⟨true, true, false, 0⟩ l wr HL.out.2.2.1.1 HL.out.2.2.1.2.2.2.1 HL.out.2.2.1.2.2.2.2.2 (by omega) (fun s hs => Nat.le_trans (HL.out.2.2.2 s hs) (by omega)) HL.out.2.2.1.rd).mono ?_
        rintro e W3 ⟨s, hs, rfl, hb3⟩
        obtain rfl : s = u := byt_inj (hs.trans (by rw [HL.out.1, words_all n hn gap hgap, HL.out.2.1]))
        have HB3 := Lib.hid (below_step HL.out.2.2.1.2.2.1 hb3)
        clear hs hb3
        go_wp2_with fail
        refine (wakes_any W3).mono ?_
        rintro e W4 ⟨rfl, hb4⟩
        have HB4 := Lib.hid (below_step HB3.out hb4)
        clear hb4
        go_wp2
        go_ret
        exact ⟨rfl, HB4.out⟩


set_option maxRecDepth 100000 in
theorem lifted (os : Os) (started : os.Started) (H : Type) (enc : TypeId × Value → H) :
    ReturnsInHanded {} Try.checked os 10 .any (Rows.foldWordsSpec.pre6 enc Try.prog Try.f10 Rows.foldWordsRow.domain false) (Rows.foldWordsSpec.post enc Try.prog Try.f10 false true false false) := by
  refine returnsInHanded_of_change (C := Try.checked) own started (by kernel_rfl) Try.func10
    (ChangeSpec.witness6 (enc := enc) (C := Try.checked) false ⟨#[], #[.int .i64 0, .int .i64 0], []⟩ 8 (by kernel_rfl) (by kernel_rfl) (by kernel_rfl) (by kernel_rfl)) ?_
  intro W base args ds gs before hval0 hW hcnd _
  have hval : ∀ (j : Nat) t v, Try.f10.params[j]? = some t → args[j]? = some v → Value.okWide Try.prog W .any base t v := hval0
  have hW' := hW
  obtain ⟨p, q, hA0, hV, rfl, hfz, hnd⟩ := hW
  have hA : DataW.TrodAll enc Try.prog W 0 (fun _ => true) true Try.f10.params.toList args.toList ds p := hA0
  rw [Try.params10] at hA hval
  obtain ⟨v0, vs0, d0, ds0, p0, q0, hargs, rfl, rfl, h0, r0⟩ := trodAll_cons hA
  obtain ⟨v1, vs1, d1, ds1, p1, q1, rfl, rfl, rfl, h1, r1⟩ := trodAll_cons r0
  obtain ⟨rfl, rfl, rfl⟩ := trodAll_nil r1
  obtain rfl : args = #[v0, v1] := by cases args; simp_all
  obtain ⟨rfl, rfl⟩ := trodVars_none hV
  obtain ⟨a0, rfl, rfl, rfl, w0⟩ := open_int Try.underlying3 (hval 0 3 v0 rfl rfl) h0
  obtain ⟨a1, rfl, rfl, rfl, w1⟩ := open_int Try.underlying3 (hval 1 3 v1 rfl rfl) h1
  clear hA0 hval0
  refine (walk a0 a1 W w0 w1).mono fun e W' ⟨he, bel⟩ => ?_
  subst he
  exact ⟨_, rfl, _, _, _, [], _, [], hW', trodAll_mk1 (shut_bool Try.underlying4 _), (trodAll_cons_mk (shut_int Try.underlying3 w0) (trodAll_cons_mk (shut_int Try.underlying3 w1) trodAll_mk0)), rfl, bel.frame _, fun h => by cases h⟩

theorem over : Rows.foldWordsRow.holds Try.pinned (OpenSpec.ofChange Rows.foldWordsSpec) :=
  OpenClaim.holds_of_wide 10 Try.f10 rfl rfl rfl rfl rfl rfl rfl ⟨rfl, rfl, rfl, rfl, rfl⟩ rfl rfl rfl rfl rfl (by kernel_rfl) Try.func10 (by kernel_rfl)
    (of_decide_eq_true (by kernel_rfl)) (by unfold Func.isWrapper; first | (rw [if_pos (by decide +kernel)]; kernel_rfl) | (rw [if_neg (by decide +kernel)]; exact ⟨rfl, rfl⟩))
    (fun os started H enc _ => lifted os started H enc)

theorem proved : Rows.FoldWordsSaid := over
#print axioms proved
end Go.Proofs.Ytodnfdkcmhiljaa.foldWords
