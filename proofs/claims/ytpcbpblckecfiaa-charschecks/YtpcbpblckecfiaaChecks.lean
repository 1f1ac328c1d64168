/-
  Proved: the law 'scholium/scholiumlaw01.CharsChecks' returns true for every input, and every argument reads as it did before. No conditions.
-/
import Derived.Test.YtpcbpblckecfiaaRows
import Derived.Test.YtpcbpblckecfiaaConv
import Derived.WalkKit
import Derived.ProofKit
import Derived.OpenShut
import Derived.ShutString
import Derived.ChangeOld
import Derived.Below
namespace Go.Proofs.Ytpcbpblckecfiaa.charsChecks
open Go.ChangeShapes Go.WideShapes Go.ChangeAt Go.RowKit
open Go.ChangeMaps (open_string shut_string)
set_option linter.unusedVariables false

theorem own : ownKnob Try.prog.godebug = none := by kernel_rfl
theorem laidOut : laidOutB Try.prog = true := by kernel_rfl

/-- WHAT THE WALK IS TOLD OF A SLICE OF INTEGERS THAT CAME IN: it is nil; or it leads to a row of 'cap' cells, the numbers 'zs' (the first 'len' are its elements, the rest its spare room), each fitting its kind. -/
def IsRow (k : IntKind) (w : World) (a : Option Addr) (len cap : Nat) (zs : List Int) : Prop :=
  (a = none ∧ len = 0 ∧ cap = 0 ∧ zs = []) ∨
  ∃ x, a = some x ∧ len ≤ cap ∧ cap ≤ maxLen ∧ zs.length = cap ∧ (∀ i, i < zs.length → w.cell? (x.add i) = some (.int k (zs.getD i 0))) ∧ ∀ n ∈ zs, (Lit.int k n).wf = true

theorem isRow_rd {w : World} {a : Option Addr} {len cap : Nat} {zs : List Int} (h : IsRow .u8 w a len cap zs) :
    RdB w a (zs.take len) ∧ Byte (zs.take len) ∧ (zs.take len).length = len ∧ len ≤ cap ∧ cap ≤ 9223372036854775807 ∧ (a = none → cap = 0) := by
  rcases h with ⟨rfl, rfl, rfl, rfl⟩ | ⟨x, rfl, hl, hm, hz, hcell, hwz⟩
  · exact ⟨fun k z h => by simp at h, fun z h => by simp at h, rfl, Nat.le_refl _, by omega, fun _ => rfl⟩
  · unfold maxLen at hm
    refine ⟨?_, ?_, by rw [List.length_take]; omega, hl, by omega, fun h => by cases h⟩
    · intro k z hk
      rw [List.getElem?_take] at hk
      split at hk
      · have hk' := (List.getElem?_eq_some_iff.1 hk).1
        have hc := hcell k hk'
        have hg : zs.getD k 0 = z := by simp [List.getD, hk]
        rw [hg] at hc
        have h0 := hcell 0 (by omega)
        obtain ⟨b, off, spot⟩ := x
        have hspot : spot = none := by simpa [Addr.add] using World.cell?_spot h0
        subst hspot
        rw [add_plain'] at hc
        exact ⟨b, off, rfl, hc⟩
      · cases hk
    · intro z hz
      have := bounds_u8 (hwz z (List.mem_of_mem_take hz))
      omega
theorem check_at2 (A : Option Addr) (n cap : Nat) (zs : List Int) (w : World) (x y : Int) (hl : zs.length = n) (hnc : n ≤ cap) (hm : cap ≤ 9223372036854775807) (hb : Byte zs) (hr : RdB w A zs) (hf : checkF zs = (x, y)) :
    Calls Try.prog 18 #[.slice A n cap] w fun e w' => e = .returned (.tuple #[.int .i64 x, .int .i64 y]) ∧ w = w' := check_at A n cap zs w hl hnc hm hb hr x y hf
theorem lnd_rd {w : World} {g : Nat} {zs : List Int} (h : OwnB w g (lnd zs 3)) : RdB w (some ⟨g, 0, none⟩) zs := by
  intro k z hz
  refine ⟨g, 0, rfl, ?_⟩
  rw [Nat.zero_add]
  refine h.at_ k z ?_
  unfold lnd; rw [List.getElem?_append_left (List.getElem?_eq_some_iff.1 hz).1]; exact hz
theorem own_mark (w : World) : (w.alloc (.cells #[.int .u8 239, .int .u8 187, .int .u8 191] 5)).ownsRow w.heap.size 5 1 (.slice (some ⟨w.heap.size, 0, none⟩) 3 3) 3 (([239, 187, 191] : List Int).map (Value.int .u8)) :=
  ⟨rfl, .inr ⟨w.heap.size, 3, _, rfl, Nat.le_refl _, heap_alloc_new w _, Nat.le_refl _, by unfold maxLen; omega, rfl, rfl⟩⟩
theorem mark_of (w : World) (A : Option Addr) (n cap : Nat) (xs : List Int) (hl : xs.length = n) (hn : n ≤ 1000) (hr : RdB w A xs) (hb : Byte xs) :
    ∃ A' cap' W, (Builtin.append_ #[27, 27] 27 #[.slice (some ⟨w.heap.size, 0, none⟩) 3 3, .slice A n cap]).run Try.prog (w.alloc (.cells #[.int .u8 239, .int .u8 187, .int .u8 191] 5)) = .ok (.slice A' (3 + n) cap') W ∧
      3 + n ≤ cap' ∧ cap' ≤ 9223372036854775807 ∧ RdB W A' ([239, 187, 191] ++ xs) ∧ Byte ([239, 187, 191] ++ xs) ∧ ([239, 187, 191] ++ xs).length = 3 + n ∧ Below w.heap.size w W := by
  have hbel : Below w.heap.size w (w.alloc (.cells #[.int .u8 239, .int .u8 187, .int .u8 191] 5)) := (Below.refl _ _).alloc (Nat.le_refl _) _
  obtain ⟨v', W, hrun, ho, hg, hv⟩ := run_append_bytes _ w.heap.size _ 3 [239, 187, 191] (own_mark w) (by simp) A n cap xs hl (hr.below hbel) (by omega)
  obtain ⟨A', cap', rfl, h1, h2⟩ := own_form ho
  refine ⟨A', cap', W, hrun, h1, h2, RdB.own ho, ?_, by simp [hl]; omega, ?_⟩
  · intro z hz
    rw [List.mem_append] at hz
    rcases hz with h | h
    · simp at h; omega
    · exact hb z h
  · exact hbel.grown hg (by simp) (by intro k hk; simp [Value.ownBlock] at hk; omega)

theorem chain {w w3 w4 w5 w6 : World} (h3 : Below w.heap.size w w3) (h4 : Below w3.heap.size w3 w4) (h5 : Below w4.heap.size w4 w5) (h6 : Below w5.heap.size w5 w6) : Below w.heap.size w w6 :=
  ((h3.trans (h4.mono h3.size)).trans (h5.mono (Nat.le_trans h3.size h4.size))).trans (h6.mono (Nat.le_trans (Nat.le_trans h3.size h4.size) h5.size))

set_option maxHeartbeats 8000000 in
theorem walk (a0 : Option Addr) (len0 cap0 : Nat) (z0 : List Int) (a1 : ByteArray) (a2 : Bool) (a3 : Int) (w : World) (w0 : IsRow .u8 w a0 len0 cap0 z0) (w1 : a1.size ≤ maxLen) (w3 : (Lit.int .u8 a3).wf = true) :
    Calls Try.prog 8 #[.slice a0 len0 cap0, .string a1, .bool a2, .int .u8 a3] w fun e w' => e = .returned (.bool true) ∧ Below w.heap.size w w' := by
  have hb3 := bounds_u8 w3
  have W1 : a1.size ≤ maxLen := w1
  have hs1 : a1.size ≤ 9223372036854775807 := by unfold maxLen at w1; omega
  obtain ⟨hrd, hby, hlen, hnc, hm, hA⟩ := isRow_rd w0
  clear w0 w1
  have HW1 := Lib.hid W1
  clear W1
  generalize z0.take len0 = ys at *
  have HRD := Lib.hid hrd
  have HBY := Lib.hid hby
  have HLEN := Lib.hid hlen
  have HA := Lib.hid hA
  clear hrd hby hlen hA
  go_enter Try.func8, Try.ntmps8
  go_wp2_with fail
  refine (cut_any a0 len0 cap0 200 ys _ HLEN.out hnc hm (by omega) HRD.out HA.out).mono ?_
  rintro e w1 ⟨A, n, cap, rfl, h1, h2, h3, h4, h5⟩
  have hby2 := HBY.out.take 200
  have hn200 : n ≤ 200 := by rw [← h1, List.length_take]; omega
  generalize ys.take 200 = xs at *
  clear HRD HBY HLEN HA hnc hm
  have H1 := Lib.hid h1
  have H4 := Lib.hid h4
  have H5 := Lib.hid h5
  have HB2 := Lib.hid hby2
  clear h1 h4 h5 hby2
  by_cases hs : 0 < a1.size
  · have ds : (0 : Int) < (a1.size : Int) := by omega
    go_wp2_with fail
    refine (text_any a1 200 w1 (by omega) HW1.out).mono ?_
    rintro e w' ⟨t, ht, rfl, rfl⟩
    obtain ⟨capb, Wb, hb⟩ := bytes_of t (by omega) w1
    have hrun := hb.run
    have hle := hb.le
    have hmx := hb.max
    have HBB := Lib.hid hb
    clear hb
    cases a2
    · have HL3 := Lib.hid (byt_len t)
      have HRD3 := Lib.hid HBB.out.rd
      have HBY3 : Hid (Byte (byt t)) := byt_byte t
      have HBE3 := Lib.hid (H5.out.trans (HBB.out.below.mono H5.out.size))
      go_wp2_with fail
      refine (lend_any _ _ _ (byt t) _ HL3.out (by omega) HRD3.out).mono ?_
      rintro e W4 ⟨rfl, ho4, hb4⟩
      rw [HL3.out]
      obtain ⟨x, y, hf⟩ : ∃ x y, checkF (byt t) = (x, y) := ⟨_, _, rfl⟩
      have HF := Lib.hid hf
      have HO4 := Lib.hid ho4
      have HB4 := Lib.hid hb4
      clear hf ho4 hb4
      go_wp2_with fail
      refine (check_at2 _ _ _ (byt t) _ x y HL3.out (by omega) (by omega) HBY3.out (lnd_rd HO4.out) HF.out).mono ?_
      rintro e w' ⟨rfl, rfl⟩
      go_wp2_with fail
      refine (refCheck_at _ _ _ (byt t) _ HL3.out (by omega) (by omega) HBY3.out (HRD3.out.below HB4.out) x y HF.out).mono ?_
      rintro e w' ⟨rfl, rfl⟩
      go_wp2_with fail
      refine (text_any a1 40 _ (by omega) HW1.out).mono ?_
      rintro e w' ⟨t2, ht2, rfl, rfl⟩
      go_wp2_with fail
      refine (intact_any _ _ _ _ (byt t) _ HL3.out (by omega) (HRD3.out.below HB4.out) HO4.out).mono ?_
      rintro e W5 ⟨rfl, hb5⟩
      have HB5 := Lib.hid hb5
      clear hb5
      have hsp : spc a3 = (a3 == 32) := rfl
      have hnm : t2.size ≤ maxLen := by unfold maxLen; omega
      have HNM := Lib.hid hnm
      clear hnm
      by_cases h48 : 48 ≤ a3
      · have hdg : dgt a3 = decide (a3 ≤ 57) := by unfold dgt; rw [decide_eq_true h48]; rfl
        go_wp2_with (first | (go_at_call 16; refine (space_any _ _).mono ?_; rintro e w' ⟨rfl, rfl⟩) | (go_at_call 17; refine (digit_any _ _).mono ?_; rintro e w' ⟨rfl, rfl⟩) | (go_at_call 19; refine (name_any t2 _ HNM.out).mono ?_; rintro e w' ⟨rfl, rfl⟩) | (go_at_call 26; refine (refName_any t2 _ HNM.out).mono ?_; rintro e w' ⟨rfl, rfl⟩) | (go_at_call 13; refine (wakes_any _).mono ?_; rintro e w9 ⟨rfl, hb9⟩))
        go_ret
        exact ⟨rfl, chain HBE3.out HB4.out HB5.out hb9⟩
      · have hdg : dgt a3 = false := by unfold dgt; rw [decide_eq_false h48]; rfl
        have d48 : decide (48 ≤ a3) = false := decide_eq_false h48
        go_wp2_with (first | (go_at_call 16; refine (space_any _ _).mono ?_; rintro e w' ⟨rfl, rfl⟩) | (go_at_call 17; refine (digit_any _ _).mono ?_; rintro e w' ⟨rfl, rfl⟩) | (go_at_call 19; refine (name_any t2 _ HNM.out).mono ?_; rintro e w' ⟨rfl, rfl⟩) | (go_at_call 26; refine (refName_any t2 _ HNM.out).mono ?_; rintro e w' ⟨rfl, rfl⟩) | (go_at_call 13; refine (wakes_any _).mono ?_; rintro e w9 ⟨rfl, hb9⟩))
        go_ret
        exact ⟨rfl, chain HBE3.out HB4.out HB5.out hb9⟩
    · have hszb : Below w1.heap.size w1 Wb := HBB.out.below
      have HBEb := Lib.hid (H5.out.trans (hszb.mono H5.out.size))
      clear hszb
      obtain ⟨Am, capm, Wm, hrunm, hm1, hm2, hm3, hm4, hm5, hm6⟩ := mark_of Wb (some ⟨w1.heap.size, 0, none⟩) t.size capb (byt t) (byt_len t) (by omega) HBB.out.rd (byt_byte t)
      have HRUNM := Lib.hid hrunm
      clear hrunm
      go_wp2_with (at_builtin; refine wpList_append_known rfl _ (.tmp 25) 27 rfl (.slice (some ⟨Wb.heap.size, 0, none⟩) 3 3) (.slice (some ⟨w1.heap.size, 0, none⟩) t.size capb) _ _ rfl rfl HRUNM.out ?_)
      have HL3 := Lib.hid hm5
      have HRD3 := Lib.hid hm3
      have HBY3 := Lib.hid hm4
      have HBE3 := Lib.hid (HBEb.out.trans (hm6.mono HBEb.out.size))
      clear hm3 hm4 hm5 hm6 HRUNM
      go_wp2_with fail
      refine (lend_any _ _ _ ([239, 187, 191] ++ byt t) _ HL3.out (by omega) HRD3.out).mono ?_
      rintro e W4 ⟨rfl, ho4, hb4⟩
      rw [HL3.out]
      obtain ⟨x, y, hf⟩ : ∃ x y, checkF ([239, 187, 191] ++ byt t) = (x, y) := ⟨_, _, rfl⟩
      have HF := Lib.hid hf
      have HO4 := Lib.hid ho4
      have HB4 := Lib.hid hb4
      clear hf ho4 hb4
      go_wp2_with fail
      refine (check_at2 _ _ _ ([239, 187, 191] ++ byt t) _ x y HL3.out (by omega) (by omega) HBY3.out (lnd_rd HO4.out) HF.out).mono ?_
      rintro e w' ⟨rfl, rfl⟩
      go_wp2_with fail
      refine (refCheck_at _ _ _ ([239, 187, 191] ++ byt t) _ HL3.out (by omega) (by omega) HBY3.out (HRD3.out.below HB4.out) x y HF.out).mono ?_
      rintro e w' ⟨rfl, rfl⟩
      go_wp2_with fail
      refine (text_any a1 40 _ (by omega) HW1.out).mono ?_
      rintro e w' ⟨t2, ht2, rfl, rfl⟩
      go_wp2_with fail
      refine (intact_any _ _ _ _ ([239, 187, 191] ++ byt t) _ HL3.out (by omega) (HRD3.out.below HB4.out) HO4.out).mono ?_
      rintro e W5 ⟨rfl, hb5⟩
      have HB5 := Lib.hid hb5
      clear hb5
      have hsp : spc a3 = (a3 == 32) := rfl
      have hnm : t2.size ≤ maxLen := by unfold maxLen; omega
      have HNM := Lib.hid hnm
      clear hnm
      by_cases h48 : 48 ≤ a3
      · have hdg : dgt a3 = decide (a3 ≤ 57) := by unfold dgt; rw [decide_eq_true h48]; rfl
        go_wp2_with (first | (go_at_call 16; refine (space_any _ _).mono ?_; rintro e w' ⟨rfl, rfl⟩) | (go_at_call 17; refine (digit_any _ _).mono ?_; rintro e w' ⟨rfl, rfl⟩) | (go_at_call 19; refine (name_any t2 _ HNM.out).mono ?_; rintro e w' ⟨rfl, rfl⟩) | (go_at_call 26; refine (refName_any t2 _ HNM.out).mono ?_; rintro e w' ⟨rfl, rfl⟩) | (go_at_call 13; refine (wakes_any _).mono ?_; rintro e w9 ⟨rfl, hb9⟩))
        go_ret
        exact ⟨rfl, chain HBE3.out HB4.out HB5.out hb9⟩
      · have hdg : dgt a3 = false := by unfold dgt; rw [decide_eq_false h48]; rfl
        have d48 : decide (48 ≤ a3) = false := decide_eq_false h48
        go_wp2_with (first | (go_at_call 16; refine (space_any _ _).mono ?_; rintro e w' ⟨rfl, rfl⟩) | (go_at_call 17; refine (digit_any _ _).mono ?_; rintro e w' ⟨rfl, rfl⟩) | (go_at_call 19; refine (name_any t2 _ HNM.out).mono ?_; rintro e w' ⟨rfl, rfl⟩) | (go_at_call 26; refine (refName_any t2 _ HNM.out).mono ?_; rintro e w' ⟨rfl, rfl⟩) | (go_at_call 13; refine (wakes_any _).mono ?_; rintro e w9 ⟨rfl, hb9⟩))
        go_ret
        exact ⟨rfl, chain HBE3.out HB4.out HB5.out hb9⟩
  · have ds : decide ((0 : Int) < (a1.size : Int)) = false := decide_eq_false (by omega)
    cases a2
    · have HL3 := H1
      have HRD3 := H4
      have HBY3 := HB2
      have HBE3 := H5
      go_wp2_with fail
      refine (lend_any _ _ _ xs _ HL3.out (by omega) HRD3.out).mono ?_
      rintro e W4 ⟨rfl, ho4, hb4⟩
      rw [HL3.out]
      obtain ⟨x, y, hf⟩ : ∃ x y, checkF xs = (x, y) := ⟨_, _, rfl⟩
      have HF := Lib.hid hf
      have HO4 := Lib.hid ho4
      have HB4 := Lib.hid hb4
      clear hf ho4 hb4
      go_wp2_with fail
      refine (check_at2 _ _ _ xs _ x y HL3.out (by omega) (by omega) HBY3.out (lnd_rd HO4.out) HF.out).mono ?_
      rintro e w' ⟨rfl, rfl⟩
      go_wp2_with fail
      refine (refCheck_at _ _ _ xs _ HL3.out (by omega) (by omega) HBY3.out (HRD3.out.below HB4.out) x y HF.out).mono ?_
      rintro e w' ⟨rfl, rfl⟩
      go_wp2_with fail
      refine (text_any a1 40 _ (by omega) HW1.out).mono ?_
      rintro e w' ⟨t2, ht2, rfl, rfl⟩
      go_wp2_with fail
      refine (intact_any _ _ _ _ xs _ HL3.out (by omega) (HRD3.out.below HB4.out) HO4.out).mono ?_
      rintro e W5 ⟨rfl, hb5⟩
      have HB5 := Lib.hid hb5
      clear hb5
      have hsp : spc a3 = (a3 == 32) := rfl
      have hnm : t2.size ≤ maxLen := by unfold maxLen; omega
      have HNM := Lib.hid hnm
      clear hnm
      by_cases h48 : 48 ≤ a3
      · have hdg : dgt a3 = decide (a3 ≤ 57) := by unfold dgt; rw [decide_eq_true h48]; rfl
        go_wp2_with (first | (go_at_call 16; refine (space_any _ _).mono ?_; rintro e w' ⟨rfl, rfl⟩) | (go_at_call 17; refine (digit_any _ _).mono ?_; rintro e w' ⟨rfl, rfl⟩) | (go_at_call 19; refine (name_any t2 _ HNM.out).mono ?_; rintro e w' ⟨rfl, rfl⟩) | (go_at_call 26; refine (refName_any t2 _ HNM.out).mono ?_; rintro e w' ⟨rfl, rfl⟩) | (go_at_call 13; refine (wakes_any _).mono ?_; rintro e w9 ⟨rfl, hb9⟩))
        go_ret
        exact ⟨rfl, chain HBE3.out HB4.out HB5.out hb9⟩
      · have hdg : dgt a3 = false := by unfold dgt; rw [decide_eq_false h48]; rfl
        have d48 : decide (48 ≤ a3) = false := decide_eq_false h48
        go_wp2_with (first | (go_at_call 16; refine (space_any _ _).mono ?_; rintro e w' ⟨rfl, rfl⟩) | (go_at_call 17; refine (digit_any _ _).mono ?_; rintro e w' ⟨rfl, rfl⟩) | (go_at_call 19; refine (name_any t2 _ HNM.out).mono ?_; rintro e w' ⟨rfl, rfl⟩) | (go_at_call 26; refine (refName_any t2 _ HNM.out).mono ?_; rintro e w' ⟨rfl, rfl⟩) | (go_at_call 13; refine (wakes_any _).mono ?_; rintro e w9 ⟨rfl, hb9⟩))
        go_ret
        exact ⟨rfl, chain HBE3.out HB4.out HB5.out hb9⟩
    · skip
      obtain ⟨Am, capm, Wm, hrunm, hm1, hm2, hm3, hm4, hm5, hm6⟩ := mark_of w1 A n cap xs H1.out (by omega) H4.out HB2.out
      have HRUNM := Lib.hid hrunm
      clear hrunm
      go_wp2_with (at_builtin; refine wpList_append_known rfl _ (.tmp 25) 27 rfl (.slice (some ⟨w1.heap.size, 0, none⟩) 3 3) (.slice A n cap) _ _ rfl rfl HRUNM.out ?_)
      have HL3 := Lib.hid hm5
      have HRD3 := Lib.hid hm3
      have HBY3 := Lib.hid hm4
      have HBE3 := Lib.hid (H5.out.trans (hm6.mono H5.out.size))
      clear hm3 hm4 hm5 hm6 HRUNM
      go_wp2_with fail
      refine (lend_any _ _ _ ([239, 187, 191] ++ xs) _ HL3.out (by omega) HRD3.out).mono ?_
      rintro e W4 ⟨rfl, ho4, hb4⟩
      rw [HL3.out]
      obtain ⟨x, y, hf⟩ : ∃ x y, checkF ([239, 187, 191] ++ xs) = (x, y) := ⟨_, _, rfl⟩
      have HF := Lib.hid hf
      have HO4 := Lib.hid ho4
      have HB4 := Lib.hid hb4
      clear hf ho4 hb4
      go_wp2_with fail
      refine (check_at2 _ _ _ ([239, 187, 191] ++ xs) _ x y HL3.out (by omega) (by omega) HBY3.out (lnd_rd HO4.out) HF.out).mono ?_
      rintro e w' ⟨rfl, rfl⟩
      go_wp2_with fail
      refine (refCheck_at _ _ _ ([239, 187, 191] ++ xs) _ HL3.out (by omega) (by omega) HBY3.out (HRD3.out.below HB4.out) x y HF.out).mono ?_
      rintro e w' ⟨rfl, rfl⟩
      go_wp2_with fail
      refine (text_any a1 40 _ (by omega) HW1.out).mono ?_
      rintro e w' ⟨t2, ht2, rfl, rfl⟩
      go_wp2_with fail
      refine (intact_any _ _ _ _ ([239, 187, 191] ++ xs) _ HL3.out (by omega) (HRD3.out.below HB4.out) HO4.out).mono ?_
      rintro e W5 ⟨rfl, hb5⟩
      have HB5 := Lib.hid hb5
      clear hb5
      have hsp : spc a3 = (a3 == 32) := rfl
      have hnm : t2.size ≤ maxLen := by unfold maxLen; omega
      have HNM := Lib.hid hnm
      clear hnm
      by_cases h48 : 48 ≤ a3
      · have hdg : dgt a3 = decide (a3 ≤ 57) := by unfold dgt; rw [decide_eq_true h48]; rfl
        go_wp2_with (first | (go_at_call 16; refine (space_any _ _).mono ?_; rintro e w' ⟨rfl, rfl⟩) | (go_at_call 17; refine (digit_any _ _).mono ?_; rintro e w' ⟨rfl, rfl⟩) | (go_at_call 19; refine (name_any t2 _ HNM.out).mono ?_; rintro e w' ⟨rfl, rfl⟩) | (go_at_call 26; refine (refName_any t2 _ HNM.out).mono ?_; rintro e w' ⟨rfl, rfl⟩) | (go_at_call 13; refine (wakes_any _).mono ?_; rintro e w9 ⟨rfl, hb9⟩))
        go_ret
        exact ⟨rfl, chain HBE3.out HB4.out HB5.out hb9⟩
      · have hdg : dgt a3 = false := by unfold dgt; rw [decide_eq_false h48]; rfl
        have d48 : decide (48 ≤ a3) = false := decide_eq_false h48
        go_wp2_with (first | (go_at_call 16; refine (space_any _ _).mono ?_; rintro e w' ⟨rfl, rfl⟩) | (go_at_call 17; refine (digit_any _ _).mono ?_; rintro e w' ⟨rfl, rfl⟩) | (go_at_call 19; refine (name_any t2 _ HNM.out).mono ?_; rintro e w' ⟨rfl, rfl⟩) | (go_at_call 26; refine (refName_any t2 _ HNM.out).mono ?_; rintro e w' ⟨rfl, rfl⟩) | (go_at_call 13; refine (wakes_any _).mono ?_; rintro e w9 ⟨rfl, hb9⟩))
        go_ret
        exact ⟨rfl, chain HBE3.out HB4.out HB5.out hb9⟩

/-! ### THE ROW's STEP: WRITTEN OUT: LEAVE IT -/
set_option maxRecDepth 100000 in
theorem lifted (os : Os) (started : os.Started) (H : Type) (enc : TypeId × Value → H) :
    ReturnsInHanded {} Try.checked os 8 .any (Rows.charsChecksSpec.pre6 enc Try.prog Try.f8 Rows.charsChecksRow.domain false) (Rows.charsChecksSpec.post enc Try.prog Try.f8 false true false false) := by
  refine returnsInHanded_of_change (C := Try.checked) own started (by kernel_rfl) Try.func8
    (ChangeSpec.witness6 (enc := enc) (C := Try.checked) false ⟨#[], #[.slice none 0 0, .string ByteArray.empty, .bool false, .int .u8 0], []⟩ 8 (by kernel_rfl) (by kernel_rfl) (by kernel_rfl) (by kernel_rfl)) ?_
  intro W base args ds gs before hval0 hW hcnd _
  have hval : ∀ (j : Nat) t v, Try.f8.params[j]? = some t → args[j]? = some v → Value.okWide Try.prog W .any base t v := hval0
  have hW' := hW
  obtain ⟨p, q, hA0, hV, rfl, hfz, hnd⟩ := hW
  have hA : DataW.TrodAll enc Try.prog W 0 (fun _ => true) true Try.f8.params.toList args.toList ds p := hA0
  rw [Try.params8] at hA hval
  obtain ⟨v0, vs0, d0, ds0, p0, q0, hargs, rfl, rfl, h0, r0⟩ := trodAll_cons hA
  obtain ⟨v1, vs1, d1, ds1, p1, q1, rfl, rfl, rfl, h1, r1⟩ := trodAll_cons r0
  obtain ⟨v2, vs2, d2, ds2, p2, q2, rfl, rfl, rfl, h2, r2⟩ := trodAll_cons r1
  obtain ⟨v3, vs3, d3, ds3, p3, q3, rfl, rfl, rfl, h3, r3⟩ := trodAll_cons r2
  obtain ⟨rfl, rfl, rfl⟩ := trodAll_nil r3
  obtain rfl : args = #[v0, v1, v2, v3] := by cases args; simp_all
  obtain ⟨rfl, rfl⟩ := trodVars_none hV
  obtain ⟨a0, len0, cap0, rfl⟩ := okWide_slice Try.underlying27 (hval 0 27 v0 rfl rfl)
  have k0 := h0
  have lt0 : ∀ x ∈ p0, x.block < W.heap.size := by obtain ⟨m, hm⟩ := k0; exact DataW.trod_lt m _ _ _ hm
  obtain ⟨z0, w0⟩ : ∃ zs, IsRow .u8 W a0 len0 cap0 zs := by
    obtain ⟨fuel, hf⟩ := h0
    rcases open_ints Try.underlying27 Try.underlying5 (by kernel_rfl) hf with ⟨hcs, _⟩ | ⟨x, l, c, zs, hcs, _, hl, hm, hz, _, hcell, hwz⟩
    · simp [Value.cells] at hcs
      obtain ⟨rfl, rfl, rfl⟩ := hcs
      exact ⟨[], .inl ⟨rfl, rfl, rfl, rfl⟩⟩
    · simp [Value.cells] at hcs
      obtain ⟨rfl, rfl, rfl⟩ := hcs
      exact ⟨zs, .inr ⟨_, rfl, hl, hm, by simpa using hz, hcell, hwz⟩⟩
  obtain ⟨a1, rfl, rfl, rfl, w1⟩ := open_string Try.underlying9 (hval 1 9 v1 rfl rfl) h1
  obtain ⟨a2, rfl, rfl, rfl⟩ := open_bool Try.underlying4 (hval 2 4 v2 rfl rfl) h2
  obtain ⟨a3, rfl, rfl, rfl, w3⟩ := open_int Try.underlying5 (hval 3 5 v3 rfl rfl) h3
  clear hA0 hval0
  refine (walk a0 len0 cap0 z0 a1 a2 a3 W w0 w1 w3).mono fun e W' ⟨he, bel⟩ => ?_
  subst he
  exact ⟨_, rfl, _, _, _, [], _, [], hW', trodAll_mk1 (shut_bool Try.underlying4 _), (trodAll_cons_mk (Below.trod laidOut (by kernel_rfl) (of_decide_eq_true (by kernel_rfl)) k0 bel lt0) (trodAll_cons_mk (shut_string Try.underlying9 w1) (trodAll_cons_mk (shut_bool Try.underlying4 _) (trodAll_cons_mk (shut_int Try.underlying5 w3) trodAll_mk0)))), rfl, bel.frame _, fun h => by cases h⟩

theorem over : Rows.charsChecksRow.holds Try.pinned (OpenSpec.ofChange Rows.charsChecksSpec) :=
  OpenClaim.holds_of_wide 8 Try.f8 rfl rfl rfl rfl rfl rfl rfl ⟨rfl, rfl, rfl, rfl, rfl⟩ rfl rfl rfl rfl rfl (by kernel_rfl) Try.func8 (by kernel_rfl)
    (of_decide_eq_true (by kernel_rfl)) (by unfold Func.isWrapper; first | (rw [if_pos (by decide +kernel)]; kernel_rfl) | (rw [if_neg (by decide +kernel)]; exact ⟨rfl, rfl⟩))
    (fun os started H enc _ => lifted os started H enc)

/-- ████ THE STATEMENT ████ -/
theorem proved : Rows.CharsChecksSaid := over
#print axioms proved
end Go.Proofs.Ytpcbpblckecfiaa.charsChecks
