/-
  Proved: the law 'scholium/scholiumlaw02.LinesBlanks' returns true for every input, and every argument reads as it did before. No conditions.
-/
import Derived.Test.YtlmhcaigjcdkeaaRows
import Derived.Test.YtlmhcaigjcdkeaaFacts
import Derived.WalkKit
import Derived.ProofKit
import Derived.OpenShut
import Derived.ShutString
namespace Go.Proofs.Ytlmhcaigjcdkeaa.linesBlanks
open Go.ChangeShapes Go.WideShapes Go.ChangeAt Go.RowKit
open Go.ChangeMaps (open_string shut_string)
set_option linter.unusedVariables false      -- a walk need not use every 'w<i>' (that an integer argument fits its kind)

theorem own : ownKnob Try.prog.godebug = none := by kernel_rfl

def keepB (z : Int) : Bool := z != 10 && z != 13 && z != 32
theorem keepB_ne {z : Int} (h : keepB z = true) : z ≠ 10 ∧ z ≠ 13 ∧ z ≠ 32 := by
  unfold keepB at h; simp at h; omega
theorem getD_app_l (l m : List Int) (k : Nat) (h : k < l.length) : (l ++ m).getD k 0 = l.getD k 0 := by
  simp [List.getD, List.getElem?_append_left h]
theorem getD_app_r (l m : List Int) (k : Nat) (h : l.length ≤ k) : (l ++ m).getD k 0 = m.getD (k - l.length) 0 := by
  simp [List.getD, List.getElem?_append_right h]
theorem blank_line (n : Nat) (v br : List Int) (hv : ∀ z ∈ v, keepB z = true) (hbr : br = [10] ∨ br = [13, 10]) :
    splitF (List.replicate n 32 ++ v ++ br) = [⟨bgn (List.replicate n 32 ++ v ++ br), n + v.length, n + v.length + br.length⟩] ∧
    (bgn (List.replicate n 32 ++ v ++ br) = 0 ∨ (bgn (List.replicate n 32 ++ v ++ br) = 3 ∧ n = 0)) ∧
    bgn (List.replicate n 32 ++ v ++ br) ≤ n + v.length ∧
    brkF (List.replicate n 32 ++ v ++ br) = br ∧
    indF (List.replicate n 32 ++ v ++ br) ⟨0, n + v.length, n + v.length + br.length⟩ = n := by
  have hu : ∀ k, k < n + v.length → (List.replicate n 32 ++ v ++ br).getD k 0 ≠ 10 ∧ (List.replicate n 32 ++ v ++ br).getD k 0 ≠ 13 := by
    intro k hk
    rw [getD_app_l _ _ _ (by simp; omega)]
    by_cases h : k < n
    · rw [getD_app_l _ _ _ (by simp; omega)]
      have : (List.replicate n (32 : Int)).getD k 0 = 32 := by simp [List.getD, h]
      rw [this]; omega
    · rw [getD_app_r _ _ _ (by simp; omega)]
      have hm : v.getD (k - (List.replicate n (32 : Int)).length) 0 ∈ v := List.mem_of_getElem? (getD_at (by simp; omega))
      have := keepB_ne (hv _ hm)
      exact ⟨this.1, this.2.1⟩
  have h32 : ∀ k, k < n → (List.replicate n 32 ++ v ++ br).getD k 0 = 32 := by
    intro k hk
    rw [getD_app_l _ _ _ (by simp; omega), getD_app_l _ _ _ (by simpa using hk)]
    simp [List.getD, hk]
  have hn32 : 0 < v.length → (List.replicate n 32 ++ v ++ br).getD n 0 ≠ 32 := by
    intro h0
    rw [getD_app_l _ _ _ (by simp; omega), getD_app_r _ _ _ (by simp)]
    have hm : v.getD (n - (List.replicate n (32 : Int)).length) 0 ∈ v := List.mem_of_getElem? (getD_at (by simp; omega))
    exact (keepB_ne (hv _ hm)).2.2
  have hend : (br = [10] ∧ (List.replicate n 32 ++ v ++ br).getD (n + v.length) 0 = 10) ∨ (br = [13, 10] ∧ (List.replicate n 32 ++ v ++ br).getD (n + v.length) 0 = 13 ∧ (List.replicate n 32 ++ v ++ br).getD (n + v.length + 1) 0 = 10) := by
    have hl : (List.replicate n (32 : Int) ++ v).length = n + v.length := by simp
    rcases hbr with rfl | rfl
    · refine .inl ⟨rfl, ?_⟩
      rw [getD_app_r _ _ _ (by omega), hl]; simp
    · refine .inr ⟨rfl, ?_, ?_⟩
      · rw [getD_app_r _ _ _ (by omega), hl]; simp
      · rw [getD_app_r _ _ _ (by omega), hl]
        rw [show n + v.length + 1 - (n + v.length) = 1 by omega]; rfl
  have hlen : (List.replicate n 32 ++ v ++ br).length = n + v.length + br.length := by simp; omega
  have hdr : ((List.replicate n 32 ++ v ++ br).drop (n + v.length)).take br.length = br := by
    rw [List.drop_append_of_le_length (by simp)]
    rw [List.drop_of_length_le (by simp)]
    simp
  have hbl : br.length = 1 ∨ br.length = 2 := by rcases hbr with rfl | rfl <;> simp
  have hb1 : br.length = 1 → br = [10] := by rcases hbr with rfl | rfl <;> simp
  have hb2 : br.length = 2 → br = [13, 10] := by rcases hbr with rfl | rfl <;> simp
  generalize hbs : List.replicate n 32 ++ v ++ br = bs at *
  clear hbs
  -- where the first line begins
  have hbg : (bgn bs = 0 ∨ (bgn bs = 3 ∧ n = 0)) ∧ bgn bs ≤ n + v.length := by
    unfold bgn
    split
    · rename_i hm
      unfold mrk at hm
      simp only [Bool.and_eq_true, decide_eq_true_eq, beq_iff_eq] at hm
      obtain ⟨⟨⟨m0, m1⟩, m2⟩, m3⟩ := hm
      have hn0 : n = 0 := by
        rcases Nat.eq_zero_or_pos n with h | h
        · exact h
        · have := h32 0 h; omega
      refine ⟨.inr ⟨rfl, hn0⟩, ?_⟩
      rcases Nat.lt_or_ge (n + v.length) 3 with h3 | h3
      · exfalso
        have hc : n + v.length = 0 ∨ n + v.length = 1 ∨ n + v.length = 2 := by omega
        rcases hend with ⟨_, e⟩ | ⟨_, e, _⟩ <;> rcases hc with h | h | h <;> rw [h] at e <;> omega
      · exact h3
    · exact ⟨.inl rfl, by omega⟩
  obtain ⟨hbg1, hbg2⟩ := hbg
  have hnl : bgn bs + nl bs (bgn bs) = n + v.length + br.length - 1 := by
    have hle := nl_le bs (bgn bs) (bgn_le bs)
    have hno := nl_no bs (bgn bs)
    have hat := nl_at bs (bgn bs)
    rw [hlen] at hle hat
    rcases hend with ⟨e0, e⟩ | ⟨e0, e, e'⟩
    · subst e0
      simp only [List.length_cons, List.length_nil] at hle hat hlen ⊢
      rcases Nat.lt_trichotomy (bgn bs + nl bs (bgn bs)) (n + v.length) with h | h | h
      · have := hat (by omega)
        exact absurd this (hu _ h).1
      · omega
      · exact absurd e (hno (n + v.length) hbg2 h (by rw [hlen]; omega))
    · subst e0
      simp only [List.length_cons, List.length_nil] at hle hat hlen ⊢
      rcases Nat.lt_trichotomy (bgn bs + nl bs (bgn bs)) (n + v.length + 1) with h | h | h
      · have h1 := hat (by omega)
        by_cases he : bgn bs + nl bs (bgn bs) = n + v.length
        · rw [he, e] at h1; omega
        · exact absurd h1 (hu _ (by omega)).1
      · omega
      · exact absurd e' (hno (n + v.length + 1) (by omega) h (by rw [hlen]; omega))
  have hln : lnF bs (bgn bs) = ⟨bgn bs, n + v.length, n + v.length + br.length⟩ := by
    unfold lnF
    rw [if_pos (by rw [hnl, hlen]; omega)]
    have e1 : bgn bs + nl bs (bgn bs) + 1 = n + v.length + br.length := by omega
    rw [e1, hnl]
    rcases hbl with h | h
    · rw [h] at hnl ⊢
      rw [if_neg]
      · simp
      · rintro ⟨h1, h2⟩
        exact (hu (n + v.length + 1 - 1 - 1) (by omega)).2 h2
    · rw [h] at hnl ⊢
      rw [if_pos]
      · simp
      · refine ⟨by omega, ?_⟩
        rcases hend with ⟨e0, e⟩ | ⟨e0, e, e'⟩
        · rw [e0] at h; simp at h
        · exact e
  have hlt : bgn bs < bs.length := by rw [hlen]; omega
  refine ⟨?_, hbg1, hbg2, ?_, ?_⟩
  · unfold splitF
    rw [rest_cons bs _ hlt, hln, rest_nil bs _ (by rw [hlen]; exact Nat.le_refl _)]
  · unfold brkF
    rw [hln]
    simp only []
    rw [if_neg (by omega), show n + v.length + br.length - (n + v.length) = br.length by omega]
    exact hdr
  · refine indF_stop bs _ n (by simp) (by simp only []; rw [hlen]; omega) (fun j hj => by simp only [Nat.zero_add]; exact h32 j hj) ?_
    simp only [Nat.zero_add]
    rcases Nat.eq_zero_or_pos v.length with h | h
    · exact .inl (by omega)
    · exact .inr (hn32 h)
theorem str_one (c : Int) (W : World) : (convert 23 9 (.slice (some ⟨W.heap.size, 0, none⟩) 1 1)).run Try.prog (W.alloc (.cells #[.int .u8 c] 5)) = .ok (.string (strOfNums [c])) (W.alloc (.cells #[.int .u8 c] 5)) :=
  run_string_rd _ _ 1 1 [c] rfl (RdB.new rfl (fun k z h => by
    match k with
    | 0 => simp at h; subst h; rfl
    | k + 1 => simp at h))
theorem indent_at (b off : Nat) (n c : Nat) (zs : List Int) (l : Ln) (x y z : Int) (w : World) (hx : x = (l.f : Int)) (hy : y = (l.t : Int)) (hz : z = (l.n : Int)) (hl : zs.length = n) (hnc : n ≤ c) (hn : n ≤ 1000000) (hr : RdB w (some ⟨b, off, none⟩) zs) (hft : l.f ≤ l.t) (htn : l.t ≤ n) (j : Nat) (hj : indF zs l = j) :
    Calls Try.prog 10 #[.slice (some ⟨b, off, none⟩) n c, .agg #[.int .i64 x, .int .i64 y, .int .i64 z]] w fun e w' => e = .returned (.int .i64 (j : Int)) ∧ Below w.heap.size w w' := by
  subst hx hy hz; exact indent_any b off n c zs l w hl hnc hn hr hft htn j hj
theorem blank_at (b off : Nat) (n c : Nat) (zs : List Int) (l : Ln) (x y z : Int) (w : World) (hx : x = (l.f : Int)) (hy : y = (l.t : Int)) (hz : z = (l.n : Int)) (hl : zs.length = n) (hnc : n ≤ c) (hn : n ≤ 1000000) (hr : RdB w (some ⟨b, off, none⟩) zs) (hft : l.f ≤ l.t) (htn : l.t ≤ n) (v : Bool) (hv : blkF zs l = v) :
    Calls Try.prog 11 #[.slice (some ⟨b, off, none⟩) n c, .agg #[.int .i64 x, .int .i64 y, .int .i64 z]] w fun e w' => e = .returned (.bool v) ∧ Below w.heap.size w w' := by
  subst hx hy hz; exact blank_any b off n c zs l w hl hnc hn hr hft htn v hv
theorem size_one (c : Int) : (strOfNums [c]).size = 1 := by rw [strOfNums_size]; rfl
theorem byt_one (c : Int) (h : 0 ≤ c ∧ c < 256) : byt (strOfNums [c]) = [c] := byt_strOfNums _ (by intro z hz; simp at hz; subst hz; exact h)

set_option maxHeartbeats 8000000 in
set_option maxRecDepth 100000 in
theorem walk (a0 : Int) (a1 : ByteArray) (a2 : Bool) (w0 : (Lit.int .i64 a0).wf = true) (w1 : a1.size ≤ maxLen) (w : World) :
    Calls Try.prog 3 #[.int .i64 a0, .string a1, .bool a2] w fun e w' => e = .returned (.bool true) ∧ Below w.heap.size w w' := by
  have hb0 := bounds_i64 w0
  obtain ⟨hb0a, hb0b⟩ := hb0
  have W1 : a1.size ≤ maxLen := w1
  have HW1 := Lib.hid W1
  clear W1 w1
  go_enter Try.func3, Try.ntmps3
  go_wp2_with fail
  refine (within_nat a0 20 w (by omega) (by omega) ⟨by omega, by omega⟩).mono ?_
  rintro e w' ⟨n, hn, rfl, rfl⟩
  go_wp2
  go_loop [7, 8] (fun s i => ∃ (k : Nat) (t : ByteArray), k ≤ n ∧ i = .int .i64 (k : Int) ∧ s = .string t ∧ t.size ≤ k ∧ Hid (byt t = List.replicate k 32)) (fun _ i => n - (intOf i).toNat)
  case atStart => exact ⟨0, ⟨#[]⟩, by omega, rfl, rfl, by exact Nat.le_refl 0, rfl⟩
  case round =>
    obtain ⟨k, t, hk, rfl, rfl, ht, HT⟩ := hrel
    by_cases hlt : k < n
    · go_wp2
      go_round
      case rel =>
        refine ⟨k + 1, t ++ ⟨#[32]⟩, by omega, by go_num, rfl, ?_, ?_⟩
        · rw [ByteArray.size_append]; have : (ByteArray.mk #[32]).size = 1 := rfl; omega
        · show byt (t ++ ⟨#[32]⟩) = _
          rw [byt_append, HT.out, List.replicate_succ']; rfl
      case measure => simp [intOf]; omega
    · obtain rfl : n = k := by omega
      go_wp2_with fail
      refine (text_any a1 20 w (by omega) HW1.out).mono ?_
      rintro e w' ⟨tx, htx, htx2, rfl, rfl⟩
      clear htx
      obtain ⟨capb, Wb, hbb⟩ := bytes_of tx (by omega) w
      have hrun := hbb.run
      have HBB := Lib.hid hbb
      have hle := hbb.le
      have hmx := hbb.max
      clear hbb
      obtain ⟨gb, hgb⟩ : ∃ gb, gb = w.heap.size := ⟨_, rfl⟩
      rw [← hgb] at hrun
      have HRB : Hid (RdB Wb (some ⟨gb, 0, none⟩) (byt tx)) := by rw [hgb]; exact HBB.out.rd
      have HBW : Hid (Below w.heap.size w Wb) := HBB.out.below
      clear HBB hgb
      have HTL := Lib.hid (byt_len tx)
      go_wp2
      clear hrun
      go_loopw [7, 28] (fun s i W => ∃ (k : Nat) (t2 : ByteArray), k ≤ tx.size ∧ i = .int .i64 (k : Int) ∧ s = .string t2 ∧ t2.size ≤ n + k ∧ Hid (byt t2 = List.replicate n 32 ++ ((byt tx).take k).filter keepB) ∧ Hid (Below Wb.heap.size Wb W)) (fun _ i _ => tx.size - (intOf i).toNat)
      case atStart => exact ⟨0, t, by omega, rfl, rfl, by omega, by show byt t = _; rw [HT.out]; simp, Below.refl _ _⟩
      case round =>
        obtain ⟨k, t2, hk2, rfl, rfl, ht2, HT2, HKW⟩ := hrel
        obtain ⟨wo, hwo⟩ : ∃ x, x = wr := ⟨_, rfl⟩
        subst hwo
        by_cases hlt2 : k < tx.size
        · obtain ⟨b', off', e, hcb⟩ := (HRB.out.below HKW.out).addr (by rw [HTL.out]; omega)
          injection e with e; injection e with e1 e2; subst e1 e2
          have hcz := hcb k (by rw [HTL.out]; omega)
          rw [Nat.zero_add] at hcz
          have hzb := (byt_byte tx).at_ (k := k) (by rw [HTL.out]; omega)
          have htk : (byt tx).take (k + 1) = (byt tx).take k ++ [(byt tx).getD k 0] := by rw [List.take_add_one, getD_at (by rw [HTL.out]; omega)]; rfl
          have HTK := Lib.hid htk
          clear hcb htk
          generalize (byt tx).getD k 0 = z at *
          have dk : (k : Int) < (tx.size : Int) := by omega
          cases hkb : keepB z
          · have hz3 : z = 10 ∨ z = 13 ∨ z = 32 := by unfold keepB at hkb; simp at hkb; omega
            have hfl : List.filter keepB ((byt tx).take (k + 1)) = List.filter keepB ((byt tx).take k) := by rw [HTK.out, List.filter_append]; simp [hkb]
            have HFL := Lib.hid hfl
            clear hfl hkb HTK
            rcases hz3 with rfl | rfl | rfl
            all_goals
              go_wp2
              go_roundw
              case rel => exact ⟨k + 1, t2, by omega, by go_num, rfl, by omega, by show byt t2 = _; rw [HFL.out]; exact HT2.out, HKW⟩
              case measure => simp [intOf]; omega
          · have hz3 := keepB_ne hkb
            have hfl : List.filter keepB ((byt tx).take (k + 1)) = List.filter keepB ((byt tx).take k) ++ [z] := by rw [HTK.out, List.filter_append]; simp [hkb]
            have HFL := Lib.hid hfl
            have d1 : (z != 10) = true := by simp; omega
            have d2 : (z != 13) = true := by simp; omega
            have d3 : (z != 32) = true := by simp; omega
            have hcv := str_one z
            have hs1 := size_one z
            have HB1 := Lib.hid (byt_one z hzb)
            clear hfl hkb HTK hz3
            generalize strOfNums [z] = sz at *
            have hs2 : sz.size ≤ 1 := by omega
            have HS1 := Lib.hid hs1
            clear hs1
            go_wp2
            go_roundw
            case rel =>
              refine ⟨k + 1, t2 ++ sz, by omega, by go_num, rfl, by rw [ByteArray.size_append]; omega, ?_, ?_⟩
              · show byt (t2 ++ sz) = _
                rw [byt_append, HT2.out, HB1.out, HFL.out, List.append_assoc]
              · exact HKW.out.alloc HKW.out.size _
            case measure => simp [intOf]; omega
        · obtain rfl : k = tx.size := by omega
          have htk : (byt tx).take tx.size = byt tx := List.take_of_length_le (by rw [HTL.out]; omega)
          rw [htk] at HT2
          clear htk
          cases a2
          · have HBS := Lib.hid (show byt (t2 ++ ⟨#[10]⟩) = List.replicate n 32 ++ ((byt tx).filter keepB) ++ [10] by rw [byt_append, HT2.out]; rfl)
            have hbl := blank_line n ((byt tx).filter keepB) [10] (fun z hz => (List.mem_filter.1 hz).2) (by simp)
            have hlv : n + ((byt tx).filter keepB).length = t2.size := by have := congrArg List.length HT2.out; rw [byt_len, List.length_append, List.length_replicate] at this; omega
            rw [hlv, ← HBS.out] at hbl
            obtain ⟨hb1, hb2, hb3, hb4, hb5⟩ := hbl
            have hsz : (t2 ++ ⟨#[10]⟩).size = t2.size + 1 := by rw [ByteArray.size_append]; rfl
            have hnv : n ≤ t2.size := by omega
            obtain ⟨cap3, W3, hbb3⟩ := bytes_of (t2 ++ ⟨#[10]⟩) (by rw [hsz]; omega) wo
            have hrun := hbb3.run
            have hle3 := hbb3.le
            have hmx3 := hbb3.max
            rw [hsz] at hrun hle3
            obtain ⟨g3, hg3⟩ : ∃ g3, g3 = wo.heap.size := ⟨_, rfl⟩
            rw [← hg3] at hrun
            have HR3 : Hid (RdB W3 (some ⟨g3, 0, none⟩) (byt (t2 ++ ⟨#[10]⟩))) := by rw [hg3]; exact hbb3.rd
            have HB3 := Lib.hid (below_step HBW.out (below_step HKW.out hbb3.below))
            have HL3 := Lib.hid (show (byt (t2 ++ ⟨#[10]⟩)).length = t2.size + 1 by rw [byt_len, hsz])
            have HY3 := Lib.hid (byt_byte (t2 ++ ⟨#[10]⟩))
            clear hbb3 hg3 hlv hsz HBS
            generalize byt (t2 ++ ⟨#[10]⟩) = bs at *
            have HS1 := Lib.hid hb1
            have HS4 := Lib.hid (show strOfNums (brkF bs) = ⟨#[10]⟩ by rw [hb4]; rfl)
            have HS5 := Lib.hid hb5
            clear hb1 hb4 hb5
            go_wp2_with fail
            refine (split_any _ (t2.size + 1) cap3 bs W3 HL3.out (by omega) (by omega) HY3.out HR3.out (fun h => by cases h) (by omega)).mono ?_
            rintro e W4 ⟨AL, m, capl, rfl, g1, g2, g3', g4, g5⟩
            rw [HS1.out] at g1 g4
            obtain rfl : m = 1 := by simpa using g1.symm
            obtain ⟨bL, offL, rfl, hbL, hc⟩ := g4.addr (by simp)
            obtain ⟨hc0, hc1, hc2⟩ := hc 0 (by simp)
            simp only [Nat.zero_mul, Nat.add_zero, lnAt_zero] at hc0 hc1 hc2
            have e2 : ((t2.size + ([10] : List Int).length : Nat) : Int) = (t2.size : Int) + 1 := by simp
            rw [e2] at hc2
            have HB4 := Lib.hid (below_step HB3.out g5)
            have HR4 := Lib.hid (HR3.out.below g5)
            clear g1 g4 g5 hc hrun e2 HR3 HB3
            rcases hb2 with hz | ⟨h3, hn0⟩
            · rw [hz] at hc0
              simp only [Int.natCast_zero] at hc0
              obtain ⟨vb, hvb⟩ : ∃ vb, blkF bs ⟨0, t2.size, t2.size + ([10] : List Int).length⟩ = vb := ⟨_, rfl⟩
              have hvb2 : vb = ((t2.size : Int) == (n : Int)) := by
                rw [← hvb]; unfold blkF; rw [HS5.out]; apply bool_iff; simp; omega
              have HVB := Lib.hid hvb
              clear hvb hz
              subst hvb2
              obtain ⟨vn, hvn⟩ : ∃ vn, ((n : Int) == 0) = vn := ⟨_, rfl⟩
              cases vn
              all_goals
                go_wp2_with fail
                refine (indent_at g3 0 (t2.size + 1) cap3 bs ⟨0, t2.size, t2.size + ([10] : List Int).length⟩ _ _ _ _ rfl rfl (by simp) HL3.out (by omega) (by omega) HR4.out (by simp) (by simp) n HS5.out).mono ?_
                rintro e W5 ⟨rfl, q5⟩
                have hk0 := cell_keep q5 hc0
                have hk1 := cell_keep q5 hc1
                have hk2 := cell_keep q5 hc2
                have HB5 := Lib.hid (below_step HB4.out q5)
                have HR5 := Lib.hid (HR4.out.below q5)
                clear q5
                go_wp2_with fail
                refine (blank_at g3 0 (t2.size + 1) cap3 bs ⟨0, t2.size, t2.size + ([10] : List Int).length⟩ _ _ _ _ rfl rfl (by simp) HL3.out (by omega) (by omega) HR5.out (by simp) (by simp) _ HVB.out).mono ?_
                rintro e W6 ⟨rfl, q6⟩
                have hl2 := cell_keep q6 hk2
                have HB6 := Lib.hid (below_step HB5.out q6)
                have HR6 := Lib.hid (HR5.out.below q6)
                clear q6
                go_wp2_with fail
                refine (break_any _ (t2.size + 1) cap3 bs W6 HL3.out (by omega) (by omega) HY3.out HR6.out (fun h => by cases h) (by omega)).mono ?_
                rintro e W7 ⟨rfl, q7⟩
                rw [HS4.out]
                have hm2 := cell_keep q7 hl2
                have HB7 := Lib.hid (below_step HB6.out q7)
                clear q7
                go_wp2_with (go_at_call 13; refine (wakes_any _).mono ?_; rintro e w9 ⟨rfl, hb9⟩)
                go_ret
                exact ⟨rfl, below_step HB7.out hb9⟩
            · subst hn0
              rw [h3] at hc0
              have e3 : ((3 : Nat) : Int) = 3 := rfl
              rw [e3] at hc0
              clear e3 h3
              go_wp2_with fail
              refine (break_any _ (t2.size + 1) cap3 bs W4 HL3.out (by omega) (by omega) HY3.out HR4.out (fun h => by cases h) (by omega)).mono ?_
              rintro e W7 ⟨rfl, q7⟩
              rw [HS4.out]
              have hm2 := cell_keep q7 hc2
              have HB7 := Lib.hid (below_step HB4.out q7)
              clear q7
              go_wp2_with (go_at_call 13; refine (wakes_any _).mono ?_; rintro e w9 ⟨rfl, hb9⟩)
              go_ret
              exact ⟨rfl, below_step HB7.out hb9⟩
          · have HBS := Lib.hid (show byt (t2 ++ ⟨#[13, 10]⟩) = List.replicate n 32 ++ ((byt tx).filter keepB) ++ [13, 10] by rw [byt_append, HT2.out]; rfl)
            have hbl := blank_line n ((byt tx).filter keepB) [13, 10] (fun z hz => (List.mem_filter.1 hz).2) (by simp)
            have hlv : n + ((byt tx).filter keepB).length = t2.size := by have := congrArg List.length HT2.out; rw [byt_len, List.length_append, List.length_replicate] at this; omega
            rw [hlv, ← HBS.out] at hbl
            obtain ⟨hb1, hb2, hb3, hb4, hb5⟩ := hbl
            have hsz : (t2 ++ ⟨#[13, 10]⟩).size = t2.size + 2 := by rw [ByteArray.size_append]; rfl
            have hnv : n ≤ t2.size := by omega
            obtain ⟨cap3, W3, hbb3⟩ := bytes_of (t2 ++ ⟨#[13, 10]⟩) (by rw [hsz]; omega) wo
            have hrun := hbb3.run
            have hle3 := hbb3.le
            have hmx3 := hbb3.max
            rw [hsz] at hrun hle3
            obtain ⟨g3, hg3⟩ : ∃ g3, g3 = wo.heap.size := ⟨_, rfl⟩
            rw [← hg3] at hrun
            have HR3 : Hid (RdB W3 (some ⟨g3, 0, none⟩) (byt (t2 ++ ⟨#[13, 10]⟩))) := by rw [hg3]; exact hbb3.rd
            have HB3 := Lib.hid (below_step HBW.out (below_step HKW.out hbb3.below))
            have HL3 := Lib.hid (show (byt (t2 ++ ⟨#[13, 10]⟩)).length = t2.size + 2 by rw [byt_len, hsz])
            have HY3 := Lib.hid (byt_byte (t2 ++ ⟨#[13, 10]⟩))
            clear hbb3 hg3 hlv hsz HBS
            generalize byt (t2 ++ ⟨#[13, 10]⟩) = bs at *
            have HS1 := Lib.hid hb1
            have HS4 := Lib.hid (show strOfNums (brkF bs) = ⟨#[13, 10]⟩ by rw [hb4]; rfl)
            have HS5 := Lib.hid hb5
            clear hb1 hb4 hb5
            go_wp2_with fail
            refine (split_any _ (t2.size + 2) cap3 bs W3 HL3.out (by omega) (by omega) HY3.out HR3.out (fun h => by cases h) (by omega)).mono ?_
            rintro e W4 ⟨AL, m, capl, rfl, g1, g2, g3', g4, g5⟩
            rw [HS1.out] at g1 g4
            obtain rfl : m = 1 := by simpa using g1.symm
            obtain ⟨bL, offL, rfl, hbL, hc⟩ := g4.addr (by simp)
            obtain ⟨hc0, hc1, hc2⟩ := hc 0 (by simp)
            simp only [Nat.zero_mul, Nat.add_zero, lnAt_zero] at hc0 hc1 hc2
            have e2 : ((t2.size + ([13, 10] : List Int).length : Nat) : Int) = (t2.size : Int) + 2 := by simp
            rw [e2] at hc2
            have HB4 := Lib.hid (below_step HB3.out g5)
            have HR4 := Lib.hid (HR3.out.below g5)
            clear g1 g4 g5 hc hrun e2 HR3 HB3
            rcases hb2 with hz | ⟨h3, hn0⟩
            · rw [hz] at hc0
              simp only [Int.natCast_zero] at hc0
              obtain ⟨vb, hvb⟩ : ∃ vb, blkF bs ⟨0, t2.size, t2.size + ([13, 10] : List Int).length⟩ = vb := ⟨_, rfl⟩
              have hvb2 : vb = ((t2.size : Int) == (n : Int)) := by
                rw [← hvb]; unfold blkF; rw [HS5.out]; apply bool_iff; simp; omega
              have HVB := Lib.hid hvb
              clear hvb hz
              subst hvb2
              obtain ⟨vn, hvn⟩ : ∃ vn, ((n : Int) == 0) = vn := ⟨_, rfl⟩
              cases vn
              all_goals
                go_wp2_with fail
                refine (indent_at g3 0 (t2.size + 2) cap3 bs ⟨0, t2.size, t2.size + ([13, 10] : List Int).length⟩ _ _ _ _ rfl rfl (by simp) HL3.out (by omega) (by omega) HR4.out (by simp) (by simp) n HS5.out).mono ?_
                rintro e W5 ⟨rfl, q5⟩
                have hk0 := cell_keep q5 hc0
                have hk1 := cell_keep q5 hc1
                have hk2 := cell_keep q5 hc2
                have HB5 := Lib.hid (below_step HB4.out q5)
                have HR5 := Lib.hid (HR4.out.below q5)
                clear q5
                go_wp2_with fail
                refine (blank_at g3 0 (t2.size + 2) cap3 bs ⟨0, t2.size, t2.size + ([13, 10] : List Int).length⟩ _ _ _ _ rfl rfl (by simp) HL3.out (by omega) (by omega) HR5.out (by simp) (by simp) _ HVB.out).mono ?_
                rintro e W6 ⟨rfl, q6⟩
                have hl2 := cell_keep q6 hk2
                have HB6 := Lib.hid (below_step HB5.out q6)
                have HR6 := Lib.hid (HR5.out.below q6)
                clear q6
                go_wp2_with fail
                refine (break_any _ (t2.size + 2) cap3 bs W6 HL3.out (by omega) (by omega) HY3.out HR6.out (fun h => by cases h) (by omega)).mono ?_
                rintro e W7 ⟨rfl, q7⟩
                rw [HS4.out]
                have hm2 := cell_keep q7 hl2
                have HB7 := Lib.hid (below_step HB6.out q7)
                clear q7
                go_wp2_with (go_at_call 13; refine (wakes_any _).mono ?_; rintro e w9 ⟨rfl, hb9⟩)
                go_ret
                exact ⟨rfl, below_step HB7.out hb9⟩
            · subst hn0
              rw [h3] at hc0
              have e3 : ((3 : Nat) : Int) = 3 := rfl
              rw [e3] at hc0
              clear e3 h3
              go_wp2_with fail
              refine (break_any _ (t2.size + 2) cap3 bs W4 HL3.out (by omega) (by omega) HY3.out HR4.out (fun h => by cases h) (by omega)).mono ?_
              rintro e W7 ⟨rfl, q7⟩
              rw [HS4.out]
              have hm2 := cell_keep q7 hc2
              have HB7 := Lib.hid (below_step HB4.out q7)
              clear q7
              go_wp2_with (go_at_call 13; refine (wakes_any _).mono ?_; rintro e w9 ⟨rfl, hb9⟩)
              go_ret
              exact ⟨rfl, below_step HB7.out hb9⟩

/-! ### THE ROW's STEP: WRITTEN OUT: LEAVE IT -/
set_option maxRecDepth 100000 in
theorem lifted (os : Os) (started : os.Started) (H : Type) (enc : TypeId × Value → H) :
    ReturnsInHanded {} Try.checked os 3 .any (Rows.linesBlanksSpec.pre6 enc Try.prog Try.f3 Rows.linesBlanksRow.domain false) (Rows.linesBlanksSpec.post enc Try.prog Try.f3 false true false false) := by
  refine returnsInHanded_of_change (C := Try.checked) own started (by kernel_rfl) Try.func3
    (ChangeSpec.witness6 (enc := enc) (C := Try.checked) false ⟨#[], #[.int .i64 0, .string ByteArray.empty, .bool false], []⟩ 8 (by kernel_rfl) (by kernel_rfl) (by kernel_rfl) (by kernel_rfl)) ?_
  intro W base args ds gs before hval0 hW hcnd _
  have hval : ∀ (j : Nat) t v, Try.f3.params[j]? = some t → args[j]? = some v → Value.okWide Try.prog W .any base t v := hval0
  have hW' := hW
  obtain ⟨p, q, hA0, hV, rfl, hfz, hnd⟩ := hW
  have hA : DataW.TrodAll enc Try.prog W 0 (fun _ => true) true Try.f3.params.toList args.toList ds p := hA0
  rw [Try.params3] at hA hval
  obtain ⟨v0, vs0, d0, ds0, p0, q0, hargs, rfl, rfl, h0, r0⟩ := trodAll_cons hA
  obtain ⟨v1, vs1, d1, ds1, p1, q1, rfl, rfl, rfl, h1, r1⟩ := trodAll_cons r0
  obtain ⟨v2, vs2, d2, ds2, p2, q2, rfl, rfl, rfl, h2, r2⟩ := trodAll_cons r1
  obtain ⟨rfl, rfl, rfl⟩ := trodAll_nil r2
  obtain rfl : args = #[v0, v1, v2] := by cases args; simp_all
  obtain ⟨rfl, rfl⟩ := trodVars_none hV
  obtain ⟨a0, rfl, rfl, rfl, w0⟩ := open_int Try.underlying3 (hval 0 3 v0 rfl rfl) h0
  obtain ⟨a1, rfl, rfl, rfl, w1⟩ := open_string Try.underlying9 (hval 1 9 v1 rfl rfl) h1
  obtain ⟨a2, rfl, rfl, rfl⟩ := open_bool Try.underlying4 (hval 2 4 v2 rfl rfl) h2
  clear hA0 hval0
  refine (walk a0 a1 a2 w0 w1 W).mono fun e W' ⟨he, hg⟩ => ?_
  subst he
  exact ⟨_, rfl, _, _, _, [], [], [], hW', trodAll_mk1 (shut_bool Try.underlying4 _), (trodAll_cons_mk (shut_int Try.underlying3 w0) (trodAll_cons_mk (shut_string Try.underlying9 w1) (trodAll_cons_mk (shut_bool Try.underlying4 _) trodAll_mk0))), rfl, hg.frame _, fun h => by cases h⟩

theorem over : Rows.linesBlanksRow.holds Try.pinned (OpenSpec.ofChange Rows.linesBlanksSpec) :=
  OpenClaim.holds_of_wide 3 Try.f3 rfl rfl rfl rfl rfl rfl rfl ⟨rfl, rfl, rfl, rfl, rfl⟩ rfl rfl rfl rfl rfl (by kernel_rfl) Try.func3 (by kernel_rfl)
    (of_decide_eq_true (by kernel_rfl)) (by unfold Func.isWrapper; first | (rw [if_pos (by decide +kernel)]; kernel_rfl) | (rw [if_neg (by decide +kernel)]; exact ⟨rfl, rfl⟩))
    (fun os started H enc _ => lifted os started H enc)

/-- ████ THE STATEMENT ████ -/
theorem proved : Rows.LinesBlanksSaid :=
  over
#print axioms proved
end Go.Proofs.Ytlmhcaigjcdkeaa.linesBlanks
