/-
  Proved: the law 'scholium/scholiumlaw01.CharsWhole' returns true for every input, and every argument reads as it did before. No conditions.
-/
import Derived.Test.YtpcbpblckecfiaaRows
import Derived.Test.YtpcbpblckecfiaaText
import Derived.WalkKit
import Derived.ProofKit
import Derived.OpenShut
import Derived.ShutString
namespace Go.Proofs.Ytpcbpblckecfiaa.charsWhole
open Go.ChangeShapes Go.WideShapes Go.ChangeAt Go.RowKit
open Go.ChangeMaps (open_string shut_string)
set_option linter.unusedVariables false      -- a walk need not use every 'w<i>' (that an integer argument fits its kind)

theorem own : ownKnob Try.prog.godebug = none := by kernel_rfl

theorem check_str (W0 : World) (s : ByteArray) (n cap : Nat) (W : World) (h : Bytes W0 s cap W) (hn : s.size = n) (x y : Int) (hf : checkF (byt s) = (x, y)) :
    Calls Try.prog 18 #[.slice (some ⟨W0.heap.size, 0, none⟩) n cap] W fun e w' => e = .returned (.tuple #[.int .i64 x, .int .i64 y]) ∧ W = w' := by
  subst hn
  exact check_at _ _ _ (byt s) W (byt_len s) h.le h.max (byt_byte s) h.rd x y hf

theorem conv_one (W : World) (o : Obj) (v : Int) : (convert 27 9 (.slice (some ⟨W.heap.size + 1, 0, none⟩) 1 1)).run Try.prog ((W.alloc o).alloc (.cells #[.int .u8 v] 5)) = .ok (.string (strOfNums [v])) ((W.alloc o).alloc (.cells #[.int .u8 v] 5)) := by
  have h : OwnB ((W.alloc o).alloc (.cells (cellsB [v]) 5)) (W.heap.size + 1) [v] := by
    have := OwnB.new (W.alloc o) [v]
    rwa [show (W.alloc o).heap.size = W.heap.size + 1 by simp] at this
  exact run_string_of _ (W.heap.size + 1) 1 [v] rfl h

def badObj : Obj := .cells #[.int .u8 192, .int .u8 193, .int .u8 245, .int .u8 255, .int .u8 128, .int .u8 0, .int .u8 1, .int .u8 127] 5
theorem one_str (W : World) (v : Int) (hv : 0 ≤ v ∧ v < 256) : ∃ u : ByteArray, u.size ≤ 1 ∧ byt u = [v] ∧ ∀ o : Obj, (convert 27 9 (.slice (some ⟨W.heap.size + 1, 0, none⟩) 1 1)).run Try.prog ((W.alloc o).alloc (.cells #[.int .u8 v] 5)) = .ok (.string u) ((W.alloc o).alloc (.cells #[.int .u8 v] 5)) :=
  ⟨strOfNums [v], by rw [strOfNums_size]; simp, byt_strOfNums _ (by intro z hz; simp at hz; subst hz; exact hv), fun o => conv_one W o v⟩
theorem big_str (W : World) (v : Int) (z : ByteArray) (hz : z.size ≤ 1000) : ∃ cap W5,
    (convert 9 27 (.string z)).run Try.prog ((W.alloc (.cells #[.int .u8 192, .int .u8 193, .int .u8 245, .int .u8 255, .int .u8 128, .int .u8 0, .int .u8 1, .int .u8 127] 5)).alloc (.cells #[.int .u8 v] 5)) = .ok (.slice (some ⟨W.heap.size + 1 + 1, 0, none⟩) z.size cap) W5 ∧
    z.size ≤ cap ∧ cap ≤ 9223372036854775807 ∧ RdB W5 (some ⟨W.heap.size + 1 + 1, 0, none⟩) (byt z) ∧ Below W.heap.size W W5 := by
  obtain ⟨cap, W5, h1, h2, h3, h4, h5⟩ := run_bytes_of z (by omega) ((W.alloc (.cells #[.int .u8 192, .int .u8 193, .int .u8 245, .int .u8 255, .int .u8 128, .int .u8 0, .int .u8 1, .int .u8 127] 5)).alloc (.cells #[.int .u8 v] 5))
  have e : ((W.alloc (.cells #[.int .u8 192, .int .u8 193, .int .u8 245, .int .u8 255, .int .u8 128, .int .u8 0, .int .u8 1, .int .u8 127] 5)).alloc (.cells #[.int .u8 v] 5)).heap.size = W.heap.size + 1 + 1 := by simp
  rw [e] at h1 h4 h5
  refine ⟨cap, W5, h1, h2, h3, h4, ?_⟩
  have hb : Below W.heap.size W ((W.alloc (.cells #[.int .u8 192, .int .u8 193, .int .u8 245, .int .u8 255, .int .u8 128, .int .u8 0, .int .u8 1, .int .u8 127] 5)).alloc (.cells #[.int .u8 v] 5)) := ((Below.refl _ _).alloc (Nat.le_refl _) _).alloc (by simp) _
  exact hb.trans (h5.mono (by omega))
theorem spoilt (s t u : ByteArray) (j : Nat) (hj : j < 8) (hu : byt u = [badB.getD j 0]) (h : checkF (byt s) = (0, 0)) (hs : s.size ≤ 100) (ht : t.size ≤ 100) : checkF (byt (s ++ u ++ t)) = ((s.size : Int), 1) := by
  have hb := bad_at j hj (byt t)
  have e : byt (s ++ u ++ t) = byt s ++ (badB.getD j 0 :: byt t) := by rw [byt_append, byt_append, hu]; simp
  rw [e, text_spoilt _ _ h (.inr hb.2) hb.1 (by simp) (by rw [List.length_append, List.length_cons, byt_len, byt_len]; omega), byt_len]

theorem mark_cases (t : ByteArray) : (mrk (byt t) = true ∧ 3 ≤ t.size ∧ ((t.extract 0 3).toList == [239, 187, 191]) = true) ∨ (mrk (byt t) = false ∧ 3 ≤ t.size ∧ ((t.extract 0 3).toList == [239, 187, 191]) = false) ∨ (mrk (byt t) = false ∧ t.size < 3) := by
  rw [mrk_byt]
  by_cases h : 3 ≤ t.size
  · rw [decide_eq_true h, Bool.true_and]
    cases (t.extract 0 3).toList == [239, 187, 191]
    · exact .inr (.inl ⟨rfl, h, rfl⟩)
    · exact .inl ⟨rfl, h, rfl⟩
  · rw [decide_eq_false h]
    exact .inr (.inr ⟨rfl, by omega⟩)

set_option maxHeartbeats 8000000 in
theorem walk (a0 : ByteArray) (a1 : ByteArray) (a2 : Int) (w0 : a0.size ≤ maxLen) (w1 : a1.size ≤ maxLen) (w2 : (Lit.int .u8 a2).wf = true) (w : World) :
    Calls Try.prog 9 #[.string a0, .string a1, .int .u8 a2] w fun e w' => e = .returned (.bool true) ∧ Below w.heap.size w w' := by
  have hb2 := bounds_u8 w2
  have HW0 := Lib.hid w0
  have HW1 := Lib.hid w1
  clear w0 w1
  go_enter Try.func9, Try.ntmps9
  go_wp2_with fail
  refine (text_any a0 100 w (by omega) HW0.out).mono ?_
  rintro e w' ⟨s, hs, rfl, rfl⟩
  go_wp2_with fail
  refine (text_any a1 100 w (by omega) HW1.out).mono ?_
  rintro e w' ⟨t, ht, rfl, rfl⟩
  clear HW0 HW1
  obtain ⟨c1, W1, hb1⟩ := bytes_of s (by omega) w
  obtain ⟨c2, W2, hb2'⟩ := bytes_of t (by omega) W1
  obtain ⟨c3, W3, hb3⟩ := bytes_of (s ++ t) (by rw [ByteArray.size_append]; omega) W2
  have r1 := hb1.run
  have r2 := hb2'.run
  have r3 := hb3.run
  have HB1 := Lib.hid hb1
  have HB2 := Lib.hid hb2'
  have HB3 := Lib.hid hb3
  clear hb1 hb2' hb3
  obtain ⟨x1, y1, hf1⟩ : ∃ x y, checkF (byt s) = (x, y) := ⟨_, _, rfl⟩
  obtain ⟨x2, y2, hf2⟩ : ∃ x y, checkF (byt t) = (x, y) := ⟨_, _, rfl⟩
  obtain ⟨x3, y3, hf3⟩ : ∃ x y, checkF (byt (s ++ t)) = (x, y) := ⟨_, _, rfl⟩
  have HF1 := Lib.hid hf1
  have HF2 := Lib.hid hf2
  have HF3 := Lib.hid hf3
  clear hf1 hf2 hf3
  go_wp2_with fail
  refine (check_str w s s.size c1 W1 HB1.out rfl x1 y1 HF1.out).mono ?_
  rintro e w' ⟨rfl, rfl⟩
  go_wp2_with fail
  refine (check_str W1 t t.size c2 W2 HB2.out rfl x2 y2 HF2.out).mono ?_
  rintro e w' ⟨rfl, rfl⟩
  go_wp2_with fail
  refine (check_str W2 (s ++ t) (s.size + t.size) c3 W3 HB3.out (by rw [ByteArray.size_append]) x3 y3 HF3.out).mono ?_
  rintro e w' ⟨rfl, rfl⟩
  have hbel : Below w.heap.size w W3 := by
    have b1 := HB1.out.below
    have b2 := HB2.out.below
    have b3 := HB3.out.below
    exact (b1.trans (b2.mono b1.size)).trans (b3.mono (Nat.le_trans b1.size b2.size))
  have HBEL := Lib.hid hbel
  clear hbel r1 r2 r3
  have hmc := mark_cases t
  rcases hmc with ⟨hm, h3, hx⟩ | hno
  · have d3 : (3 : Int) ≤ (t.size : Int) := by omega
    clear hm
    go_wp2_with (go_at_call 13; refine (wakes_any _).mono ?_; rintro e w9 ⟨rfl, hb9⟩)
    go_ret
    exact ⟨rfl, HBEL.out.trans (hb9.mono HBEL.out.size)⟩
  · have hm : mrk (byt t) = false := by rcases hno with h | h <;> exact h.1
    have HM := Lib.hid hm
    have hnx : ((3 : Int) ≤ (t.size : Int) ∧ ((t.extract 0 3).toList == [239, 187, 191]) = false) ∨ decide (3 ≤ (t.size : Int)) = false := by
      rcases hno with h | h
      · exact .inl ⟨by omega, h.2.2⟩
      · exact .inr (decide_eq_false (by omega))
    clear hm hno
    by_cases hy1 : y1 = 0
    · by_cases hy2 : y2 = 0
      · subst hy1 hy2
        have e1 : checkF (byt s) = (0, 0) := checkF_zero _ (by rw [HF1.out])
        have e2 : checkF (byt t) = (0, 0) := checkF_zero _ (by rw [HF2.out])
        have e3 : checkF (byt (s ++ t)) = (0, 0) := by
          rw [byt_append]
          exact text_both _ _ e1 e2 HM.out (by rw [List.length_append, byt_len, byt_len]; omega)
        have hxy : x3 = 0 ∧ y3 = 0 := by have := HF3.out; rw [e3] at this; injection this with a b; exact ⟨a.symm, b.symm⟩
        obtain ⟨rfl, rfl⟩ := hxy
        have E1 := Lib.hid e1
        have E2 := Lib.hid e2
        clear HF1 HF2 HF3 e1 e2 e3
        have hj : a2 % 8 = 0 ∨ a2 % 8 = 1 ∨ a2 % 8 = 2 ∨ a2 % 8 = 3 ∨ a2 % 8 = 4 ∨ a2 % 8 = 5 ∨ a2 % 8 = 6 ∨ a2 % 8 = 7 := by omega
        rcases hj with hj | hj | hj | hj | hj | hj | hj | hj
        · obtain ⟨u, hu, hub, hcs⟩ := one_str W3 192 (by omega)
          have hfin := spoilt s t u 0 (by omega) hub E1.out hs ht
          obtain ⟨c5, W5, r5, p1, p2, p3, p4⟩ := big_str W3 192 (s ++ u ++ t) (by rw [ByteArray.size_append, ByteArray.size_append]; omega)
          have HFIN := Lib.hid hfin
          have P3 := Lib.hid p3
          have P4 := Lib.hid p4
          have hle : s.size + u.size + t.size ≤ c5 := by rw [ByteArray.size_append, ByteArray.size_append] at p1; exact p1
          clear hfin p3 p4 hub p1
          rcases hnx with ⟨d3, hx⟩ | d3
          all_goals
            go_wp2_with (first | (go_at_call 18; refine (check_at _ _ _ (byt (s ++ u ++ t)) W5 (by rw [byt_len, ByteArray.size_append, ByteArray.size_append]) hle p2 (byt_byte _) P3.out _ _ HFIN.out).mono ?_; rintro e w' ⟨rfl, rfl⟩) | (go_at_call 13; refine (wakes_any _).mono ?_; rintro e w9 ⟨rfl, hb9⟩))
            go_ret
            exact ⟨rfl, (HBEL.out.trans (P4.out.mono HBEL.out.size)).trans (hb9.mono (Nat.le_trans HBEL.out.size P4.out.size))⟩
        · obtain ⟨u, hu, hub, hcs⟩ := one_str W3 193 (by omega)
          have hfin := spoilt s t u 1 (by omega) hub E1.out hs ht
          obtain ⟨c5, W5, r5, p1, p2, p3, p4⟩ := big_str W3 193 (s ++ u ++ t) (by rw [ByteArray.size_append, ByteArray.size_append]; omega)
          have HFIN := Lib.hid hfin
          have P3 := Lib.hid p3
          have P4 := Lib.hid p4
          have hle : s.size + u.size + t.size ≤ c5 := by rw [ByteArray.size_append, ByteArray.size_append] at p1; exact p1
          clear hfin p3 p4 hub p1
          rcases hnx with ⟨d3, hx⟩ | d3
          all_goals
            go_wp2_with (first | (go_at_call 18; refine (check_at _ _ _ (byt (s ++ u ++ t)) W5 (by rw [byt_len, ByteArray.size_append, ByteArray.size_append]) hle p2 (byt_byte _) P3.out _ _ HFIN.out).mono ?_; rintro e w' ⟨rfl, rfl⟩) | (go_at_call 13; refine (wakes_any _).mono ?_; rintro e w9 ⟨rfl, hb9⟩))
            go_ret
            exact ⟨rfl, (HBEL.out.trans (P4.out.mono HBEL.out.size)).trans (hb9.mono (Nat.le_trans HBEL.out.size P4.out.size))⟩
        · obtain ⟨u, hu, hub, hcs⟩ := one_str W3 245 (by omega)
          have hfin := spoilt s t u 2 (by omega) hub E1.out hs ht
          obtain ⟨c5, W5, r5, p1, p2, p3, p4⟩ := big_str W3 245 (s ++ u ++ t) (by rw [ByteArray.size_append, ByteArray.size_append]; omega)
          have HFIN := Lib.hid hfin
          have P3 := Lib.hid p3
          have P4 := Lib.hid p4
          have hle : s.size + u.size + t.size ≤ c5 := by rw [ByteArray.size_append, ByteArray.size_append] at p1; exact p1
          clear hfin p3 p4 hub p1
          rcases hnx with ⟨d3, hx⟩ | d3
          all_goals
            go_wp2_with (first | (go_at_call 18; refine (check_at _ _ _ (byt (s ++ u ++ t)) W5 (by rw [byt_len, ByteArray.size_append, ByteArray.size_append]) hle p2 (byt_byte _) P3.out _ _ HFIN.out).mono ?_; rintro e w' ⟨rfl, rfl⟩) | (go_at_call 13; refine (wakes_any _).mono ?_; rintro e w9 ⟨rfl, hb9⟩))
            go_ret
            exact ⟨rfl, (HBEL.out.trans (P4.out.mono HBEL.out.size)).trans (hb9.mono (Nat.le_trans HBEL.out.size P4.out.size))⟩
        · obtain ⟨u, hu, hub, hcs⟩ := one_str W3 255 (by omega)
          have hfin := spoilt s t u 3 (by omega) hub E1.out hs ht
          obtain ⟨c5, W5, r5, p1, p2, p3, p4⟩ := big_str W3 255 (s ++ u ++ t) (by rw [ByteArray.size_append, ByteArray.size_append]; omega)
          have HFIN := Lib.hid hfin
          have P3 := Lib.hid p3
          have P4 := Lib.hid p4
          have hle : s.size + u.size + t.size ≤ c5 := by rw [ByteArray.size_append, ByteArray.size_append] at p1; exact p1
          clear hfin p3 p4 hub p1
          rcases hnx with ⟨d3, hx⟩ | d3
          all_goals
            go_wp2_with (first | (go_at_call 18; refine (check_at _ _ _ (byt (s ++ u ++ t)) W5 (by rw [byt_len, ByteArray.size_append, ByteArray.size_append]) hle p2 (byt_byte _) P3.out _ _ HFIN.out).mono ?_; rintro e w' ⟨rfl, rfl⟩) | (go_at_call 13; refine (wakes_any _).mono ?_; rintro e w9 ⟨rfl, hb9⟩))
            go_ret
            exact ⟨rfl, (HBEL.out.trans (P4.out.mono HBEL.out.size)).trans (hb9.mono (Nat.le_trans HBEL.out.size P4.out.size))⟩
        · obtain ⟨u, hu, hub, hcs⟩ := one_str W3 128 (by omega)
          have hfin := spoilt s t u 4 (by omega) hub E1.out hs ht
          obtain ⟨c5, W5, r5, p1, p2, p3, p4⟩ := big_str W3 128 (s ++ u ++ t) (by rw [ByteArray.size_append, ByteArray.size_append]; omega)
          have HFIN := Lib.hid hfin
          have P3 := Lib.hid p3
          have P4 := Lib.hid p4
          have hle : s.size + u.size + t.size ≤ c5 := by rw [ByteArray.size_append, ByteArray.size_append] at p1; exact p1
          clear hfin p3 p4 hub p1
          rcases hnx with ⟨d3, hx⟩ | d3
          all_goals
            go_wp2_with (first | (go_at_call 18; refine (check_at _ _ _ (byt (s ++ u ++ t)) W5 (by rw [byt_len, ByteArray.size_append, ByteArray.size_append]) hle p2 (byt_byte _) P3.out _ _ HFIN.out).mono ?_; rintro e w' ⟨rfl, rfl⟩) | (go_at_call 13; refine (wakes_any _).mono ?_; rintro e w9 ⟨rfl, hb9⟩))
            go_ret
            exact ⟨rfl, (HBEL.out.trans (P4.out.mono HBEL.out.size)).trans (hb9.mono (Nat.le_trans HBEL.out.size P4.out.size))⟩
        · obtain ⟨u, hu, hub, hcs⟩ := one_str W3 0 (by omega)
          have hfin := spoilt s t u 5 (by omega) hub E1.out hs ht
          obtain ⟨c5, W5, r5, p1, p2, p3, p4⟩ := big_str W3 0 (s ++ u ++ t) (by rw [ByteArray.size_append, ByteArray.size_append]; omega)
          have HFIN := Lib.hid hfin
          have P3 := Lib.hid p3
          have P4 := Lib.hid p4
          have hle : s.size + u.size + t.size ≤ c5 := by rw [ByteArray.size_append, ByteArray.size_append] at p1; exact p1
          clear hfin p3 p4 hub p1
          rcases hnx with ⟨d3, hx⟩ | d3
          all_goals
            go_wp2_with (first | (go_at_call 18; refine (check_at _ _ _ (byt (s ++ u ++ t)) W5 (by rw [byt_len, ByteArray.size_append, ByteArray.size_append]) hle p2 (byt_byte _) P3.out _ _ HFIN.out).mono ?_; rintro e w' ⟨rfl, rfl⟩) | (go_at_call 13; refine (wakes_any _).mono ?_; rintro e w9 ⟨rfl, hb9⟩))
            go_ret
            exact ⟨rfl, (HBEL.out.trans (P4.out.mono HBEL.out.size)).trans (hb9.mono (Nat.le_trans HBEL.out.size P4.out.size))⟩
        · obtain ⟨u, hu, hub, hcs⟩ := one_str W3 1 (by omega)
          have hfin := spoilt s t u 6 (by omega) hub E1.out hs ht
          obtain ⟨c5, W5, r5, p1, p2, p3, p4⟩ := big_str W3 1 (s ++ u ++ t) (by rw [ByteArray.size_append, ByteArray.size_append]; omega)
          have HFIN := Lib.hid hfin
          have P3 := Lib.hid p3
          have P4 := Lib.hid p4
          have hle : s.size + u.size + t.size ≤ c5 := by rw [ByteArray.size_append, ByteArray.size_append] at p1; exact p1
          clear hfin p3 p4 hub p1
          rcases hnx with ⟨d3, hx⟩ | d3
          all_goals
            go_wp2_with (first | (go_at_call 18; refine (check_at _ _ _ (byt (s ++ u ++ t)) W5 (by rw [byt_len, ByteArray.size_append, ByteArray.size_append]) hle p2 (byt_byte _) P3.out _ _ HFIN.out).mono ?_; rintro e w' ⟨rfl, rfl⟩) | (go_at_call 13; refine (wakes_any _).mono ?_; rintro e w9 ⟨rfl, hb9⟩))
            go_ret
            exact ⟨rfl, (HBEL.out.trans (P4.out.mono HBEL.out.size)).trans (hb9.mono (Nat.le_trans HBEL.out.size P4.out.size))⟩
        · obtain ⟨u, hu, hub, hcs⟩ := one_str W3 127 (by omega)
          have hfin := spoilt s t u 7 (by omega) hub E1.out hs ht
          obtain ⟨c5, W5, r5, p1, p2, p3, p4⟩ := big_str W3 127 (s ++ u ++ t) (by rw [ByteArray.size_append, ByteArray.size_append]; omega)
          have HFIN := Lib.hid hfin
          have P3 := Lib.hid p3
          have P4 := Lib.hid p4
          have hle : s.size + u.size + t.size ≤ c5 := by rw [ByteArray.size_append, ByteArray.size_append] at p1; exact p1
          clear hfin p3 p4 hub p1
          rcases hnx with ⟨d3, hx⟩ | d3
          all_goals
            go_wp2_with (first | (go_at_call 18; refine (check_at _ _ _ (byt (s ++ u ++ t)) W5 (by rw [byt_len, ByteArray.size_append, ByteArray.size_append]) hle p2 (byt_byte _) P3.out _ _ HFIN.out).mono ?_; rintro e w' ⟨rfl, rfl⟩) | (go_at_call 13; refine (wakes_any _).mono ?_; rintro e w9 ⟨rfl, hb9⟩))
            go_ret
            exact ⟨rfl, (HBEL.out.trans (P4.out.mono HBEL.out.size)).trans (hb9.mono (Nat.le_trans HBEL.out.size P4.out.size))⟩
      · have dy : (y2 != 0) = true := by simpa using hy2
        subst hy1
        rcases hnx with ⟨d3, hx⟩ | d3
        all_goals
          go_wp2_with (go_at_call 13; refine (wakes_any _).mono ?_; rintro e w9 ⟨rfl, hb9⟩)
          go_ret
          exact ⟨rfl, HBEL.out.trans (hb9.mono HBEL.out.size)⟩
    · have dy : (y1 != 0) = true := by simpa using hy1
      rcases hnx with ⟨d3, hx⟩ | d3
      all_goals
        go_wp2_with (go_at_call 13; refine (wakes_any _).mono ?_; rintro e w9 ⟨rfl, hb9⟩)
        go_ret
        exact ⟨rfl, HBEL.out.trans (hb9.mono HBEL.out.size)⟩

/-! ### THE ROW's STEP: WRITTEN OUT: LEAVE IT -/
set_option maxRecDepth 100000 in
theorem lifted (os : Os) (started : os.Started) (H : Type) (enc : TypeId × Value → H) :
    ReturnsInHanded {} Try.checked os 9 .any (Rows.charsWholeSpec.pre6 enc Try.prog Try.f9 Rows.charsWholeRow.domain false) (Rows.charsWholeSpec.post enc Try.prog Try.f9 false true false false) := by
  refine returnsInHanded_of_change (C := Try.checked) own started (by kernel_rfl) Try.func9
    (ChangeSpec.witness6 (enc := enc) (C := Try.checked) false ⟨#[], #[.string ByteArray.empty, .string ByteArray.empty, .int .u8 0], []⟩ 8 (by kernel_rfl) (by kernel_rfl) (by kernel_rfl) (by kernel_rfl)) ?_
  intro W base args ds gs before hval0 hW hcnd _
  have hval : ∀ (j : Nat) t v, Try.f9.params[j]? = some t → args[j]? = some v → Value.okWide Try.prog W .any base t v := hval0
  have hW' := hW
  obtain ⟨p, q, hA0, hV, rfl, hfz, hnd⟩ := hW
  have hA : DataW.TrodAll enc Try.prog W 0 (fun _ => true) true Try.f9.params.toList args.toList ds p := hA0
  rw [Try.params9] at hA hval
  obtain ⟨v0, vs0, d0, ds0, p0, q0, hargs, rfl, rfl, h0, r0⟩ := trodAll_cons hA
  obtain ⟨v1, vs1, d1, ds1, p1, q1, rfl, rfl, rfl, h1, r1⟩ := trodAll_cons r0
  obtain ⟨v2, vs2, d2, ds2, p2, q2, rfl, rfl, rfl, h2, r2⟩ := trodAll_cons r1
  obtain ⟨rfl, rfl, rfl⟩ := trodAll_nil r2
  obtain rfl : args = #[v0, v1, v2] := by cases args; simp_all
  obtain ⟨rfl, rfl⟩ := trodVars_none hV
  obtain ⟨a0, rfl, rfl, rfl, w0⟩ := open_string Try.underlying9 (hval 0 9 v0 rfl rfl) h0
  obtain ⟨a1, rfl, rfl, rfl, w1⟩ := open_string Try.underlying9 (hval 1 9 v1 rfl rfl) h1
  obtain ⟨a2, rfl, rfl, rfl, w2⟩ := open_int Try.underlying5 (hval 2 5 v2 rfl rfl) h2
  clear hA0 hval0
  refine (walk a0 a1 a2 w0 w1 w2 W).mono fun e W' ⟨he, hg⟩ => ?_
  subst he
  exact ⟨_, rfl, _, _, _, [], [], [], hW', trodAll_mk1 (shut_bool Try.underlying4 _), (trodAll_cons_mk (shut_string Try.underlying9 w0) (trodAll_cons_mk (shut_string Try.underlying9 w1) (trodAll_cons_mk (shut_int Try.underlying5 w2) trodAll_mk0))), rfl, hg.frame _, fun h => by cases h⟩

theorem over : Rows.charsWholeRow.holds Try.pinned (OpenSpec.ofChange Rows.charsWholeSpec) :=
  OpenClaim.holds_of_wide 9 Try.f9 rfl rfl rfl rfl rfl rfl rfl ⟨rfl, rfl, rfl, rfl, rfl⟩ rfl rfl rfl rfl rfl (by kernel_rfl) Try.func9 (by kernel_rfl)
    (of_decide_eq_true (by kernel_rfl)) (by unfold Func.isWrapper; first | (rw [if_pos (by decide +kernel)]; kernel_rfl) | (rw [if_neg (by decide +kernel)]; exact ⟨rfl, rfl⟩))
    (fun os started H enc _ => lifted os started H enc)

/-- ████ THE STATEMENT ████ -/
theorem proved : Rows.CharsWholeSaid :=
  over
#print axioms proved
end Go.Proofs.Ytpcbpblckecfiaa.charsWhole
