/- The law's own digits; plain facts on numbers that are put together. -/
import Derived.Test.YtijclnjiibblaaaDoorScText
import Derived.Test.YtijclnjiibblaaaDoorScFacts
namespace Go.Proofs.YtijclnjiibblaaaDoor
open Go.RowKit
set_option linter.unusedVariables false

/-- One or more digits. -/
def Digs (l : List UInt8) : Prop := l ≠ [] ∧ l.all (tenD.contains ·) = true
theorem dgt_list (k : Nat) (h : k < 10) : ∃ c : UInt8, (((⟨#[48, 49, 50, 51, 52, 53, 54, 55, 56, 57]⟩ : ByteArray).extract k 10).extract 0 1).toList = [c] ∧ tenD.contains c = true := by
  have hk : ∀ k : Fin 10, ∃ c : UInt8, ((((tenD.drop k.val).take (10 - k.val)).drop 0).take (1 - 0)) = [c] ∧ tenD.contains c = true := by
    intro k
    have : ∀ k : Fin 10, ((((tenD.drop k.val).take (10 - k.val)).drop 0).take (1 - 0)) = [UInt8.ofNat (48 + k.val)] ∧ tenD.contains (UInt8.ofNat (48 + k.val)) = true := by decide +kernel
    exact ⟨_, this k⟩
  obtain ⟨c, h1, h2⟩ := hk ⟨k, h⟩
  refine ⟨c, ?_, h2⟩
  rw [list_extract, list_extract, show (⟨#[48, 49, 50, 51, 52, 53, 54, 55, 56, 57]⟩ : ByteArray).toList = tenD from mk_list tenD]
  exact h1
def DigP (w : World) (e : Ending) (w' : World) : Prop := ∃ t : ByteArray, Digs t.toList ∧ t.size ≤ 1000001 ∧ e = .returned (.string t) ∧ Below w.heap.size w w'
set_option maxHeartbeats 1000000 in
theorem digits_at {w W : World} (hb : Below w.heap.size w W) (a : Int) (ha : -9223372036854775808 ≤ a ∧ a ≤ 9223372036854775807) :
    Calls Tryd.prog 8 #[.int .i64 a] W (DigP w) := by
  have HB := Lib.hid hb
  clear hb
  go_enter Tryd.func8, Tryd.ntmps8
  go_wp2_with fail
  refine (within_nat a 1000000 W (by omega) (by omega) ha).mono ?_
  rintro e w1 ⟨n, hn, rfl, rfl⟩
  go_wp2_with fail
  go_loopw [0, 3] (fun u v V => ∃ (q : Nat) (s : ByteArray), u = .int .i64 (q : Int) ∧ v = .string s ∧ V = W ∧ s.size + q ≤ 1000000 ∧ Hid (s.toList.all (tenD.contains ·) = true)) (fun u _ _ => (intOf u).toNat)
  case atStart => exact ⟨n, ⟨#[]⟩, rfl, rfl, rfl, by have : (⟨#[]⟩ : ByteArray).size = 0 := rfl; omega, by show _ = _; rw [show (⟨#[]⟩ : ByteArray).toList = [] from mk_list []]; rfl⟩
  case round =>
    obtain ⟨q, s, rfl, rfl, rfl, hs, HA⟩ := hrel
    by_cases h9 : 9 < q
    · have d9 : (9 : Int) < (q : Int) := by omega
      obtain ⟨k, hk, hk10⟩ : ∃ k : Nat, (q : Int).tmod 10 = (k : Int) ∧ k < 10 := ⟨q % 10, by rw [Int.tmod_eq_emod_of_nonneg (by omega)]; omega, by omega⟩
      obtain ⟨p, hp, hpq⟩ : ∃ p : Nat, (q : Int).tdiv 10 = (p : Int) ∧ p + 1 ≤ q := ⟨q / 10, by rw [Int.tdiv_eq_ediv_of_nonneg (by omega)]; omega, by omega⟩
      obtain ⟨c, hc1, hc2⟩ := dgt_list k hk10
      have HC1 := Lib.hid hc1
      have HC2 := Lib.hid hc2
      clear hc1 hc2
      go_wp2_with fail
      have hsz := congrArg List.length HC1.out
      rw [list_len] at hsz
      refine ⟨⟨p, _, rfl, rfl, by trivial, ?_, ?_⟩, ?_⟩
      · rw [ByteArray.size_append, hsz]
        simp only [List.length_cons, List.length_nil]; omega
      · show _ = _
        rw [list_append, HC1.out, List.all_append, HA.out]
        simpa using HC2.out
      · simp [intOf]; omega
    · have d9 : decide ((9 : Int) < (q : Int)) = false := decide_eq_false (by omega)
      obtain ⟨c, hc1, hc2⟩ := dgt_list q (by omega)
      have HC1 := Lib.hid hc1
      have HC2 := Lib.hid hc2
      clear hc1 hc2
      go_wp2_with fail
      go_ret
      have hsz := congrArg List.length HC1.out
      rw [list_len] at hsz
      refine ⟨_, ⟨?_, ?_⟩, ?_, rfl, HB.out⟩
      · rw [list_append, HC1.out]; simp
      · rw [list_append, HC1.out, List.all_append, HA.out]
        simpa using HC2.out
      · rw [ByteArray.size_append, hsz]
        simp only [List.length_cons, List.length_nil]; omega

/-! ### Numbers put together -/
def Sgn (s : List UInt8) : Prop := s = [] ∨ s = [45] ∨ s = [43]
theorem Digs.cons {x : List UInt8} (h : Digs x) : ∃ c t, x = c :: t ∧ tenD.contains c = true ∧ t.all (tenD.contains ·) = true := by
  cases x with
  | nil => exact absurd rfl h.1
  | cons c t => have := h.2; rw [List.all_cons, Bool.and_eq_true] at this; exact ⟨c, t, rfl, this.1, this.2⟩
theorem Digs.allF {x : List UInt8} (h : Digs x) : allF tenD x = true := by
  obtain ⟨c, t, rfl, h1, h2⟩ := h.cons
  rw [allF_all, List.all_cons, h1, h2]; rfl
theorem Digs.uns {x : List UInt8} (h : Digs x) (r : List UInt8) : unsF (x ++ r) = x ++ r := by
  obtain ⟨c, t, rfl, h1, h2⟩ := h.cons
  exact uns_same c _ (fun e => by subst e; revert h1; decide) (fun e => by subst e; revert h1; decide)
theorem dig_notin : ∀ n : Fin 256, tenD.contains (UInt8.ofNat n.val) = true → UInt8.ofNat n.val ∉ ([126, 110, 117, 108, 78, 85, 76] : List UInt8) ∧ UInt8.ofNat n.val ∉ ([116, 114, 117, 101, 84, 82, 85, 69, 102, 97, 108, 115, 70, 65, 76, 83] : List UInt8) ∧ UInt8.ofNat n.val ∉ ([46, 110, 97, 78, 65] : List UInt8) ∧ UInt8.ofNat n.val ∉ ([46, 105, 110, 102, 73, 78, 70] : List UInt8) ∧ hexU.contains (UInt8.ofNat n.val) = true ∧ UInt8.ofNat n.val ≠ 120 := by decide +kernel
theorem dig_not (c : UInt8) (h : tenD.contains c = true) : c ∉ ([126, 110, 117, 108, 78, 85, 76] : List UInt8) ∧ c ∉ ([116, 114, 117, 101, 84, 82, 85, 69, 102, 97, 108, 115, 70, 65, 76, 83] : List UInt8) ∧ c ∉ ([46, 110, 97, 78, 65] : List UInt8) ∧ c ∉ ([46, 105, 110, 102, 73, 78, 70] : List UInt8) ∧ hexU.contains c = true ∧ c ≠ 120 := by
  have := dig_notin ⟨c.toNat, c.toNat_lt⟩
  simp only [UInt8.ofNat_toNat] at this
  exact this h
/-- A digit within: no word. -/
theorem digs_word {x l : List UInt8} (h : Digs x) (hx : ∀ c ∈ x, c ∈ l) : nullF l = false ∧ boolF l = false ∧ nanF l = false ∧ infF l = false := by
  obtain ⟨c, t, rfl, h1, h2⟩ := h.cons
  have hm := hx c (by simp)
  have := dig_not c h1
  exact ⟨null_has c hm this.1, bool_has c hm this.2.1, nan_has c hm this.2.2.1, inf_has c hm this.2.2.2.1⟩
theorem int_put {s x r : List UInt8} (hs : Sgn s) (h : Digs x) (hr : ∀ c, r[0]? = some c → c ≠ 111 ∧ c ≠ 120) : intF (s ++ (x ++ r)) = allF tenD (x ++ r) := by
  obtain ⟨c, t, rfl, h1, h2⟩ := h.cons
  rcases hs with rfl | rfl | rfl
  · refine int_plain c (t ++ r) h1 (fun d hd => ?_)
    cases t with
    | nil => exact hr d hd
    | cons e u =>
      injection hd with hd
      subst hd
      rw [List.all_cons, Bool.and_eq_true] at h2
      exact ⟨fun e => by subst e; exact absurd h2.1 (by decide), fun e => by subst e; exact absurd h2.1 (by decide)⟩
  · exact int_sign 45 _ (.inl rfl)
  · exact int_sign 43 _ (.inr rfl)
theorem flo_put {s x r : List UInt8} (hs : Sgn s) (h : Digs x) : floF (s ++ (x ++ r)) = fltF (x ++ r) := by
  obtain ⟨c, t, rfl, h1, h2⟩ := h.cons
  have hc : c ≠ 46 := fun e => by subst e; revert h1; decide
  rcases hs with rfl | rfl | rfl
  · exact flo_plain c _ h1
  · exact flo_sign 45 c _ (.inl rfl) hc
  · exact flo_sign 43 c _ (.inr rfl) hc
/-- What stands behind the digits and the point. -/
def behF (r : List UInt8) : List UInt8 := trimF tenD (Lib.trimPrefix (trimF tenD r) [46])
theorem flt_put {x r : List UInt8} (h : Digs x) : fltF (x ++ r) = ((behF r).isEmpty || expF (behF r)) := by
  have ht := trimF_append tenD x r h.2
  have hl : (trimF tenD (x ++ r)).length < (x ++ r).length := by
    obtain ⟨c, t, rfl, h1, h2⟩ := h.cons
    rw [ht]
    have := trimF_len tenD r
    simp only [List.cons_append, List.length_cons, List.length_append]; omega
  rw [fltF, fracB, decide_eq_true hl, Bool.true_or, Bool.true_and, fracR, ptF, ht]
  rfl
theorem beh_pt (y u : List UInt8) (hy : y.all (tenD.contains ·) = true) (hu : ∀ c, u[0]? = some c → tenD.contains c = false) : behF (46 :: (y ++ u)) = u := by
  rw [behF, trimF_cons, show tenD.contains 46 = false by decide, if_neg (by simp)]
  rw [show Lib.trimPrefix (46 :: (y ++ u)) [46] = y ++ u from rfl, trimF_append tenD y u hy]
  cases u with
  | nil => rfl
  | cons c t => rw [trimF_cons, hu c rfl, if_neg (by simp)]
theorem beh_no (c : UInt8) (t : List UInt8) (h1 : tenD.contains c = false) (h2 : c ≠ 46) : behF (c :: t) = c :: t := by
  have ht : trimF tenD (c :: t) = c :: t := by rw [trimF_cons, h1, if_neg (by simp)]
  have hp : Lib.trimPrefix (c :: t) [46] = c :: t := by
    rw [Lib.trimPrefix, if_neg]
    simp only [Lib.hasPrefix, List.isPrefixOf, Bool.and_true, beq_iff_eq]
    exact fun h => h2 h.symm
  rw [behF, ht, hp, ht]
theorem exp_no (c : UInt8) (t : List UInt8) (h1 : c ≠ 101) (h2 : c ≠ 69) : expF (c :: t) = false := by
  rw [expF, beq_eq_false_iff_ne.2 h1, beq_eq_false_iff_ne.2 h2]; rfl
theorem Digs.exp {z : List UInt8} (h : Digs z) (c : UInt8) (hc : c = 101 ∨ c = 69) : expF (c :: z) = true ∧ expF (c :: 45 :: z) = true ∧ expF (c :: 43 :: z) = true := by
  have h0 : (c == 101 || c == 69) = true := by simpa using hc
  have hu := h.uns []
  rw [List.append_nil] at hu
  refine ⟨?_, ?_, ?_⟩
  · rw [expF, h0, hu, h.allF]; rfl
  · rw [expF, h0, uns_sign 45 z (.inl rfl), h.allF]; rfl
  · rw [expF, h0, uns_sign 43 z (.inr rfl), h.allF]; rfl

theorem res_int {l : List UInt8} (h1 : nullF l = false) (h2 : boolF l = false) (h3 : intF l = true) : resF l = [33, 33, 105, 110, 116] := by rw [resF, h1, h2, h3]; rfl
theorem res_flo {l : List UInt8} (h1 : nullF l = false) (h2 : boolF l = false) (h3 : intF l = false) (h4 : floF l = true) : resF l = [33, 33, 102, 108, 111, 97, 116] := by rw [resF, h1, h2, h3, h4]; rfl
theorem res_str {l : List UInt8} (h1 : nullF l = false) (h2 : boolF l = false) (h3 : intF l = false) (h4 : floF l = false) : resF l = [33, 33, 115, 116, 114] := by rw [resF, h1, h2, h3, h4]; rfl
/-- A number with a sign or none, and something behind it. -/
theorem put_flo {s x r : List UInt8} (hs : Sgn s) (h : Digs x) (c : UInt8) (hc : r[0]? = some c) (hc1 : tenD.contains c = false) (hc2 : c ≠ 111 ∧ c ≠ 120) (b : Bool) (hb : ((behF r).isEmpty || expF (behF r)) = b) :
    resF (s ++ (x ++ r)) = if b then [33, 33, 102, 108, 111, 97, 116] else [33, 33, 115, 116, 114] := by
  have hw := digs_word (l := s ++ (x ++ r)) h (fun c hc => by simp [hc])
  have hi : intF (s ++ (x ++ r)) = false := by
    rw [int_put hs h (fun d hd => by rw [hc] at hd; injection hd with hd; subst hd; exact hc2)]
    exact allF_has c (List.mem_append_right _ (List.mem_of_getElem? hc)) hc1
  have hf : floF (s ++ (x ++ r)) = b := by rw [flo_put hs h, flt_put h, hb]
  cases b with
  | true => exact res_flo hw.1 hw.2.1 hi hf
  | false => exact res_str hw.1 hw.2.1 hi hf

section
variable {s x y z : List UInt8}
theorem num1 (hs : Sgn s) (hx : Digs x) : resF (s ++ x) = [33, 33, 105, 110, 116] := by
  have hw := digs_word (l := s ++ x) hx (fun c hc => by simp [hc])
  have hi := int_put hs hx (r := []) (fun c hc => by cases hc)
  rw [List.append_nil, hx.allF] at hi
  exact res_int hw.1 hw.2.1 hi
theorem num2 (hs : Sgn s) (hx : Digs x) (hy : Digs y) : resF (s ++ (x ++ 46 :: y)) = [33, 33, 102, 108, 111, 97, 116] := by
  have hb := beh_pt y [] hy.2 (fun c hc => by cases hc)
  rw [List.append_nil] at hb
  exact put_flo hs hx 46 rfl (by decide) (by decide) true (by rw [hb]; rfl)
theorem num3 (hs : Sgn s) (hx : Digs x) : resF (s ++ (x ++ [46])) = [33, 33, 102, 108, 111, 97, 116] :=
  put_flo hs hx 46 rfl (by decide) (by decide) true (by rw [show behF [46] = [] from beh_pt [] [] rfl (fun c hc => by cases hc)]; rfl)
theorem num4 (hs : Sgn s) (hy : Digs y) : resF (s ++ 46 :: y) = [33, 33, 102, 108, 111, 97, 116] := by
  have hw := digs_word (l := s ++ 46 :: y) hy (fun c hc => by simp [hc])
  have hw2 := digs_word (l := 46 :: y) hy (fun c hc => by simp [hc])
  have hi : intF (s ++ 46 :: y) = false := int_has 46 (by simp) (by decide) (by decide) (by decide) (by decide) (by decide)
  have hu : unsF (s ++ 46 :: y) = 46 :: y := by
    rcases hs with rfl | rfl | rfl
    · exact uns_same 46 y (by decide) (by decide)
    · exact uns_sign 45 _ (.inl rfl)
    · exact uns_sign 43 _ (.inr rfl)
  have ht : trimF tenD (46 :: y) = 46 :: y := by rw [trimF_cons, show tenD.contains 46 = false by decide, if_neg (by simp)]
  have hp : ptF (46 :: y) = y := by rw [ptF, ht]; rfl
  have hr : fracR (46 :: y) = [] := by
    have := hy.allF
    rw [allF, Bool.and_eq_true] at this
    rw [fracR, hp, List.isEmpty_iff.1 this.2]
  have hb : fracB (46 :: y) = true := by
    rw [fracB, hr, hp]
    obtain ⟨c, t, rfl, _, _⟩ := hy.cons
    simp
  have hf : floF (s ++ 46 :: y) = true := by rw [floF, hw.2.2.1, hu, hw2.2.2.2, hb, hr]; rfl
  exact res_flo hw.1 hw.2.1 hi hf
theorem num5 (hs : Sgn s) (hx : Digs x) (hz : Digs z) : resF (s ++ (x ++ 101 :: z)) = [33, 33, 102, 108, 111, 97, 116] :=
  put_flo hs hx 101 rfl (by decide) (by decide) true (by rw [beh_no 101 z (by decide) (by decide), (hz.exp 101 (.inl rfl)).1]; rfl)
theorem num6 (hs : Sgn s) (hx : Digs x) (hy : Digs y) (hz : Digs z) : resF (s ++ (x ++ 46 :: (y ++ 69 :: 45 :: z))) = [33, 33, 102, 108, 111, 97, 116] :=
  put_flo hs hx 46 rfl (by decide) (by decide) true (by rw [beh_pt y (69 :: 45 :: z) hy.2 (fun c hc => by injection hc with hc; subst hc; decide), (hz.exp 69 (.inr rfl)).2.1]; rfl)
theorem num7 (hs : Sgn s) (hx : Digs x) (hz : Digs z) : resF (s ++ (x ++ 101 :: 43 :: z)) = [33, 33, 102, 108, 111, 97, 116] :=
  put_flo hs hx 101 rfl (by decide) (by decide) true (by rw [beh_no 101 _ (by decide) (by decide), (hz.exp 101 (.inl rfl)).2.2]; rfl)
theorem num8 (hs : Sgn s) (hx : Digs x) (hy : Digs y) (hz : Digs z) : resF (s ++ (x ++ 101 :: (z ++ 46 :: y))) = [33, 33, 115, 116, 114] :=
  put_flo hs hx 101 rfl (by decide) (by decide) false (by
    rw [beh_no 101 _ (by decide) (by decide), expF, hz.uns, allF_has 46 (by simp) (by decide)]; rfl)
theorem num9 (hs : Sgn s) (hx : Digs x) : resF (s ++ (x ++ [32])) = [33, 33, 115, 116, 114] :=
  put_flo hs hx 32 rfl (by decide) (by decide) false (by rw [beh_no 32 _ (by decide) (by decide), exp_no 32 _ (by decide) (by decide)]; rfl)
theorem num10 (hs : Sgn s) (hx : Digs x) : resF (x ++ (s ++ [120])) = [33, 33, 115, 116, 114] := by
  have hw := digs_word (l := x ++ (s ++ [120])) hx (fun c hc => by simp [hc])
  have hm : (120 : UInt8) ∈ x ++ (s ++ [120]) := by simp
  have hnx : ∀ c ∈ x ++ s, c ≠ 120 := by
    intro c hc
    rcases List.mem_append.1 hc with h | h
    · exact (dig_not c (List.all_eq_true.1 hx.2 c h)).2.2.2.2.2
    · rcases hs with rfl | rfl | rfl
      · cases h
      · simp at h; subst h; decide
      · simp at h; subst h; decide
  have hi : intF (x ++ (s ++ [120])) = false := by
    unfold intF
    split
    · exact allF_has 120 (pre_has _ _ 120 hm (by decide) (by decide)) (by decide)
    · split
      · rename_i hp
        have hp' := hp
        rw [← Lib.hasPrefix_of_take, Bool.and_eq_true, beq_iff_eq, decide_eq_true_eq] at hp
        have h1 : (x ++ (s ++ [120]))[1]? = some 120 := by
          have := congrArg (fun l => l[1]?) hp.2
          simpa [List.getElem?_take] using this
        rw [← List.append_assoc] at h1
        have hl : (x ++ s).length ≤ 1 := by
          rcases Nat.lt_or_ge 1 (x ++ s).length with hlt | hge
          · rw [List.getElem?_append_left hlt] at h1
            exact absurd rfl (hnx 120 (List.mem_of_getElem? h1))
          · exact hge
        rw [Lib.trimPrefix, if_pos hp', List.drop_eq_nil_of_le (by
          rw [← List.append_assoc, List.length_append]; simp only [List.length_cons, List.length_nil]; omega)]
        rfl
      · exact allF_has 120 (uns_has 120 hm (by decide) (by decide)) (by decide)
  have hf : floF (x ++ (s ++ [120])) = false := by
    have h0 := flo_put (s := []) (x := x) (r := s ++ [120]) (.inl rfl) hx
    rw [List.nil_append] at h0
    rw [h0, flt_put hx]
    rcases hs with rfl | rfl | rfl
    · rw [List.nil_append, beh_no 120 _ (by decide) (by decide), exp_no 120 _ (by decide) (by decide)]; rfl
    · rw [List.cons_append, beh_no 45 _ (by decide) (by decide), exp_no 45 _ (by decide) (by decide)]; rfl
    · rw [List.cons_append, beh_no 43 _ (by decide) (by decide), exp_no 43 _ (by decide) (by decide)]; rfl
  exact res_str hw.1 hw.2.1 hi hf
theorem num11 (hx : Digs x) : resF (48 :: 120 :: x) = [33, 33, 105, 110, 116] := by
  have hw := digs_word (l := 48 :: 120 :: x) hx (fun c hc => by simp [hc])
  have hi : intF (48 :: 120 :: x) = true := by
    rw [intF, show Lib.hasPrefix (48 :: 120 :: x) [48, 111] = false by simp [Lib.hasPrefix, List.isPrefixOf], if_neg (by simp), show Lib.hasPrefix (48 :: 120 :: x) [48, 120] = true by simp [Lib.hasPrefix, List.isPrefixOf], if_pos rfl,
      show Lib.trimPrefix (48 :: 120 :: x) [48, 120] = x by simp [Lib.trimPrefix, Lib.hasPrefix, List.isPrefixOf], allF_all]
    have : x.all (hexU.contains ·) = true := List.all_eq_true.2 fun c hc => (dig_not c (List.all_eq_true.1 hx.2 c hc)).2.2.2.2.1
    rw [this]
    obtain ⟨c, t, rfl, _, _⟩ := hx.cons
    rfl
  exact res_int hw.1 hw.2.1 hi
theorem num12 (hx : Digs x) : resF (48 :: 88 :: x) = [33, 33, 115, 116, 114] := by
  have hd : Digs [48] := ⟨by simp, by decide⟩
  exact put_flo (s := []) (x := [48]) (r := 88 :: x) (.inl rfl) hd 88 rfl (by decide) (by decide) false (by rw [beh_no 88 _ (by decide) (by decide), exp_no 88 _ (by decide) (by decide)]; rfl)
theorem num13 (hs : Sgn s) (hx : Digs x) : resF (s ++ (x ++ 44 :: y)) = [33, 33, 115, 116, 114] :=
  put_flo hs hx 44 rfl (by decide) (by decide) false (by rw [beh_no 44 _ (by decide) (by decide), exp_no 44 _ (by decide) (by decide)]; rfl)
end
end Go.Proofs.YtijclnjiibblaaaDoor
