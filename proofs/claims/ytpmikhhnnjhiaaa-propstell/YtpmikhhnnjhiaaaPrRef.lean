/- The document's answers of chapter 10: word, ValidTag, TakeAlias, PutProps. -/
import Derived.Test.YtpmikhhnnjhiaaaPrTake
namespace Go.Proofs.Ytpmikhhnnjhiaaa
open Go.RowKit
set_option linter.unusedVariables false
set_option maxRecDepth 100000

theorem wrd_cons (x : Int) (t : List Int) : wrdF (x :: t) = if x = 32 then [] else x :: wrdF t := by
  unfold wrdF
  rw [List.takeWhile_cons]
  by_cases hx : x = 32
  · subst hx; simp
  · rw [if_neg hx, bne_iff_ne.2 hx]; rfl
set_option maxHeartbeats 1000000 in
theorem refWord_any (A : Option Addr) (n c : Nat) (zs : List Int) (w : World) (hl : zs.length = n) (hnc : n ≤ c) (hm : c ≤ 9223372036854775807) (hA : A = none → c = 0) (hb : Byte zs) (hr : RdB w A zs) :
    Calls Try.prog 29 #[.slice A n c] w fun e w' => (∃ s, byt s = wrdF zs ∧ e = .returned (.string s)) ∧ w = w' := by
  have HR := Lib.hid hr
  have HL := Lib.hid hl
  have HB := Lib.hid hb
  have HA0 := Lib.hid hA
  clear hr hl hb hA
  go_enter Try.func29, Try.ntmps29
  go_wp2
  go_loop [3] (fun i => ∃ k : Nat, k ≤ n ∧ i = .int .i64 (k : Int) ∧ Hid (wrdF zs = zs.take k ++ wrdF (zs.drop k))) (fun i => n - (intOf i).toNat)
  case atStart => exact ⟨0, Nat.zero_le _, rfl, by show _ = _; simp⟩
  case round =>
    obtain ⟨k, hk, rfl, HA⟩ := hrel
    have fin : (wrdF zs = zs.take k) → Hid (byt (strOfNums (zs.take k)) = wrdF zs) := fun h => by
      show _ = _
      rw [h]; exact byt_strOfNums _ (HB.out.take k)
    by_cases hlt : k < n
    · obtain ⟨b, off, rfl, hc⟩ := HR.out.addr (by rw [HL.out]; omega)
      have ck := hc k (by rw [HL.out]; exact hlt)
      have hd := drop_cons_at (l := zs) (k := k) (by rw [HL.out]; exact hlt)
      have ht : zs.take (k + 1) = zs.take k ++ [zs.getD k 0] := by
        rw [List.take_add_one, getD_at (by rw [HL.out]; exact hlt)]; rfl
      have d1 : (k : Int) < (n : Int) := by omega
      generalize zs.getD k 0 = x at *
      by_cases h32 : x = 32
      · subst h32
        have HK := fin (by rw [HA.out, hd, wrd_cons, if_pos rfl, List.append_nil])
        have e1 := slice_h (some ⟨b, off, none⟩) n c k hk hnc HA0.out
        have hcv := run_string_rd w (some ⟨b, off, none⟩) k c (zs.take k) (by rw [List.length_take, HL.out]; omega) (HR.out.take k)
        clear hc hd ht fin
        go_wp2_with fail
        go_ret
        exact ⟨⟨_, HK.out, rfl⟩, rfl⟩
      · have ds : (x != 32) = true := bne_iff_ne.2 h32
        have HK : Hid (wrdF zs = zs.take (k + 1) ++ wrdF (zs.drop (k + 1))) := by show _ = _; rw [HA.out, hd, wrd_cons, if_neg h32, ht, List.append_assoc]; rfl
        clear hc hd ht fin
        go_wp2_with fail
        go_round
        case rel => exact ⟨k + 1, by omega, by go_num, HK⟩
        case measure => simp [intOf]; omega
    · have hkn : k = n := by omega
      have HK := fin (by rw [HA.out, List.drop_of_length_le (by rw [HL.out]; omega)]; simp [wrdF])
      have d1 : decide ((k : Int) < (n : Int)) = false := decide_eq_false (by omega)
      have e1 := slice_h A n c k hk hnc HA0.out
      have hcv := run_string_rd w A k c (zs.take k) (by rw [List.length_take, HL.out]; omega) (HR.out.take k)
      clear fin hkn
      go_wp2_with fail
      go_ret
      exact ⟨⟨_, HK.out, rfl⟩, rfl⟩

/-- The document's ValidTag, as a plain function. -/
theorem valid_ways (l : List Int) : (l = [33] ∧ validF l = true) ∨ (l ≠ [33] ∧ 2 < l.length ∧ l.take 2 = [33, 33] ∧ validF l = nameF (l.drop 2)) ∨
    (l ≠ [33] ∧ (2 < l.length → l.take 2 ≠ [33, 33]) ∧ 1 < l.length ∧ l.head? = some 33 ∧ validF l = nameF (l.drop 1)) ∨
    (l ≠ [33] ∧ (2 < l.length → l.take 2 ≠ [33, 33]) ∧ (l.length ≤ 1 ∨ l.head? ≠ some 33) ∧ validF l = false) := by
  match l with
  | [] => right; right; right; exact ⟨by simp, by simp, by simp, rfl⟩
  | [x] =>
    by_cases hx : x = 33
    · subst hx; left; exact ⟨rfl, by simp [validF, cutF]⟩
    · right; right; right; exact ⟨by simp [hx], by simp, by simp, by simp [validF, cutF, hx]⟩
  | x :: y :: t =>
    by_cases hx : x = 33
    · subst hx
      by_cases hy : y = 33
      · subst hy
        cases t with
        | nil => right; right; left; exact ⟨by simp, by simp, by simp, rfl, by simp [validF, cutF, nameF, nmb, dgt]⟩
        | cons z t => right; left; exact ⟨by simp, by simp, rfl, by simp [validF, cutF]⟩
      · right; right; left; exact ⟨by simp, by simp [hy], by simp, rfl, by simp [validF, cutF, hy]⟩
    · right; right; right; exact ⟨by simp, by simp [hx], by simp [hx], by simp [validF, cutF, hx]⟩
set_option maxHeartbeats 1000000 in
theorem refValid_any (s : ByteArray) (hs : s.size ≤ maxLen) (w : World) :
    Calls Try.prog 18 #[.string s] w fun e w' => e = .returned (.bool (validF (byt s))) ∧ w = w' := by
  have hs' := hs
  unfold maxLen at hs'
  have h33 : (s.toList == [33]) = (byt s == [33]) := by
    have := list_byt s ⟨#[33]⟩
    rwa [show (⟨#[33]⟩ : ByteArray).toList = [33] from by rw [Lib.toList_data]] at this
  have h2 : ∀ u : ByteArray, (u.toList == [33, 33]) = (byt u == [33, 33]) := fun u => by
    have := list_byt u ⟨#[33, 33]⟩
    rwa [show (⟨#[33, 33]⟩ : ByteArray).toList = [33, 33] from by rw [Lib.toList_data]] at this
  rcases valid_ways (byt s) with ⟨h1, hv⟩ | ⟨h1, hl, ht, hv⟩ | ⟨h1, ht, hl, hh, hv⟩ | ⟨h1, ht, hl, hv⟩
  · rw [hv]
    have t1 : (s.toList == [33]) = true := by rw [h33, h1]; rfl
    clear h33 h2 h1 hv
    go_enter Try.func18, Try.ntmps18
    go_wp2_with fail
    go_ret
    exact ⟨rfl, rfl⟩
  · rw [hv]
    have t1 : (s.toList == [33]) = false := by rw [h33]; exact beq_eq_false_iff_ne.2 h1
    rw [byt_len] at hl
    have t2 : ((s.extract 0 2).toList == [33, 33]) = true := by rw [h2, byt_extract]; simp only [List.drop_zero]; rw [ht]; rfl
    have d2 : (2 : Int) < (s.size : Int) := by omega
    obtain ⟨u, hu⟩ : ∃ u, s.extract 2 s.size = u := ⟨_, rfl⟩
    have hub : byt u = (byt s).drop 2 := by rw [← hu, byt_extract, List.take_of_length_le (by rw [List.length_drop, byt_len]; omega)]
    have NC := Lib.hid (refName_any u w (by rw [← hu, ByteArray.size_extract]; omega))
    rw [hub] at NC
    clear h33 h2 h1 ht hv hub
    go_enter Try.func18, Try.ntmps18
    go_wp2_with (go_at_call 30; refine NC.out.mono ?_; rintro e w' ⟨rfl, rfl⟩)
    go_ret
    exact ⟨rfl, rfl⟩
  · rw [hv]
    have t1 : (s.toList == [33]) = false := by rw [h33]; exact beq_eq_false_iff_ne.2 h1
    rw [byt_len] at hl
    have d1 : (1 : Int) < (s.size : Int) := by omega
    obtain ⟨u, hu⟩ : ∃ u, s.extract 1 s.size = u := ⟨_, rfl⟩
    have hub : byt u = (byt s).drop 1 := by rw [← hu, byt_tail]
    have NC := Lib.hid (refName_any u w (by rw [← hu, ByteArray.size_extract]; omega))
    rw [hub] at NC
    have hix : ∀ W, (Instr.index 9 (.string s) (.int .i64 0)).run Try.prog W = .ok (.int .u8 33) W := fun W => by
      have := run_index_string (P := Try.prog) W 9 s .i64 0 Try.underlying9
      rw [dif_pos (by omega)] at this
      rw [this]
      have h0 := byt_at s 0 (by omega)
      rw [← List.head?_eq_getElem?, hh] at h0
      injection h0 with h0
      have : ((s[(0 : Int).toNat]'(by omega)).toNat : Int) = 33 := h0.symm
      rw [this]
    generalize nameF ((byt s).drop 1) = v at *
    by_cases hsz : 2 < s.size
    · have d2 : (2 : Int) < (s.size : Int) := by omega
      have t2 : ((s.extract 0 2).toList == [33, 33]) = false := by rw [h2, byt_extract]; simp only [List.drop_zero]; exact beq_eq_false_iff_ne.2 (ht (by rw [byt_len]; exact hsz))
      clear h33 h2 h1 ht hv hub hh
      go_enter Try.func18, Try.ntmps18
      go_wp2_with (go_at_call 30; refine NC.out.mono ?_; rintro e w' ⟨rfl, rfl⟩)
      go_ret
      exact ⟨rfl, rfl⟩
    · have d2 : decide ((2 : Int) < (s.size : Int)) = false := decide_eq_false (by omega)
      clear h33 h2 h1 ht hv hub hh
      go_enter Try.func18, Try.ntmps18
      go_wp2_with (go_at_call 30; refine NC.out.mono ?_; rintro e w' ⟨rfl, rfl⟩)
      go_ret
      exact ⟨rfl, rfl⟩
  · rw [hv]
    have t1 : (s.toList == [33]) = false := by rw [h33]; exact beq_eq_false_iff_ne.2 h1
    rw [byt_len] at hl
    by_cases h1s : 1 < s.size
    · have d1 : (1 : Int) < (s.size : Int) := by omega
      obtain ⟨x, hx, hix⟩ : ∃ x : Int, (x == 33) = false ∧ ∀ W, (Instr.index 9 (.string s) (.int .i64 0)).run Try.prog W = .ok (.int .u8 x) W := by
        refine ⟨((s[0]'(by omega)).toNat : Int), ?_, fun W => ?_⟩
        · have h0 := byt_at s 0 (by omega)
          rw [← List.head?_eq_getElem?] at h0
          rcases hl with h | h
          · omega
          · rw [h0] at h
            exact beq_eq_false_iff_ne.2 (fun e => h (by rw [e]))
        · have := run_index_string (P := Try.prog) W 9 s .i64 0 Try.underlying9
          rw [dif_pos (by omega)] at this
          rw [this]; rfl
      by_cases hsz : 2 < s.size
      · have d2 : (2 : Int) < (s.size : Int) := by omega
        have t2 : ((s.extract 0 2).toList == [33, 33]) = false := by rw [h2, byt_extract]; simp only [List.drop_zero]; exact beq_eq_false_iff_ne.2 (ht (by rw [byt_len]; exact hsz))
        clear h33 h2 h1 ht hv hl
        go_enter Try.func18, Try.ntmps18
        go_wp2_with fail
        go_ret
        exact ⟨rfl, rfl⟩
      · have d2 : decide ((2 : Int) < (s.size : Int)) = false := decide_eq_false (by omega)
        clear h33 h2 h1 ht hv hl
        go_enter Try.func18, Try.ntmps18
        go_wp2_with fail
        go_ret
        exact ⟨rfl, rfl⟩
    · have d2 : decide ((2 : Int) < (s.size : Int)) = false := decide_eq_false (by omega)
      have d1 : decide ((1 : Int) < (s.size : Int)) = false := decide_eq_false (by omega)
      clear h33 h2 h1 ht hv hl
      go_enter Try.func18, Try.ntmps18
      go_wp2_with fail
      go_ret
      exact ⟨rfl, rfl⟩

set_option maxHeartbeats 1000000 in
theorem refPut_any (t a : ByteArray) (ht : t.size ≤ 1000000) (ha : a.size ≤ 1000000) (w : World) :
    Calls Try.prog 20 #[.agg #[.string t, .string a]] w (StrB (putF (byt t) (byt a)) w) := by
  unfold StrB
  have hp : putF (byt t) (byt a) = if (byt a).isEmpty then byt t else if (byt t).isEmpty then 38 :: byt a else 38 :: byt a ++ 32 :: byt t := rfl
  have HP := Lib.hid hp
  clear hp
  cases he : a.toList.isEmpty with
  | true =>
    have HE : Hid ((byt a).isEmpty = true) := by show _ = _; rw [← empty_byt]; exact he
    cases hf : t.toList.isEmpty with
    | true =>
      have HF : Hid ((byt t).isEmpty = true) := by show _ = _; rw [← empty_byt]; exact hf
      go_enter Try.func20, Try.ntmps20
      go_wp2_with fail
      go_ret
      exact ⟨_, by rw [HP.out, HE.out, List.isEmpty_iff.1 HF.out]; rfl, rfl, (Below.refl _ _).alloc (Nat.le_refl _) _⟩
    | false =>
      go_enter Try.func20, Try.ntmps20
      go_wp2_with fail
      go_ret
      exact ⟨_, by rw [HP.out, HE.out]; first | rfl | (rw [byt_append]; rfl), rfl, (Below.refl _ _).alloc (Nat.le_refl _) _⟩
  | false =>
    have HE : Hid ((byt a).isEmpty = false) := by show _ = _; rw [← empty_byt]; exact he
    obtain ⟨u, hu⟩ : ∃ u, (⟨#[38]⟩ : ByteArray) ++ a = u := ⟨_, rfl⟩
    have hub : byt u = 38 :: byt a := by rw [← hu, byt_append]; rfl
    have hue : u.toList.isEmpty = false := by rw [empty_byt, hub]; rfl
    have husz : u.size ≤ 1000001 := by have := byt_len u; rw [hub, List.length_cons, byt_len] at this; omega
    have HUB := Lib.hid hub
    clear hub
    cases hf : t.toList.isEmpty with
    | true =>
      have HF : Hid ((byt t).isEmpty = true) := by show _ = _; rw [← empty_byt]; exact hf
      go_enter Try.func20, Try.ntmps20
      go_wp2_with fail
      go_ret
      exact ⟨_, by rw [HP.out, HE.out, HF.out, HUB.out]; rfl, rfl, (Below.refl _ _).alloc (Nat.le_refl _) _⟩
    | false =>
      have HF : Hid ((byt t).isEmpty = false) := by show _ = _; rw [← empty_byt]; exact hf
      go_enter Try.func20, Try.ntmps20
      go_wp2_with fail
      go_ret
      exact ⟨_, by rw [HP.out, HE.out, HF.out, byt_append, byt_append, HUB.out, List.append_assoc]; rfl, rfl, (Below.refl _ _).alloc (Nat.le_refl _) _⟩

theorem refAlias_eq (l : List Int) : ∀ m, 33 ≤ m → nameF (l.take (ltrF m l)) = nameF (l.take (ltrF 33 l)) ∧ (nameF (l.take (ltrF 33 l)) = true → ltrF m l = ltrF 33 l) := by
  intro m hm
  have key : ∀ (n m : Nat) (l : List Int), n ≤ m → ltrF n l = min n (ltrF m l) := by
    intro n
    induction n with
    | zero => intro m l _; simp [ltrF]
    | succ n ih =>
      intro m l h
      obtain ⟨m, rfl⟩ : ∃ q, m = q + 1 := ⟨m - 1, by omega⟩
      cases l with
      | nil => simp [ltrF]
      | cons x t =>
        simp only [ltrF]
        have := ih m t (by omega)
        split
        · omega
        · omega
  have h1 := key 33 m l hm
  have h2 := ltr_len m l
  by_cases h : ltrF m l ≤ 32
  · have : ltrF 33 l = ltrF m l := by omega
    rw [this]; exact ⟨rfl, fun _ => rfl⟩
  · have e : ltrF 33 l = 33 := by omega
    have f1 : nameF (l.take (ltrF m l)) = false := nameF_len _ (.inr (by rw [List.length_take]; omega))
    have f2 : nameF (l.take (ltrF 33 l)) = false := nameF_len _ (.inr (by rw [List.length_take]; omega))
    rw [f1, f2]; exact ⟨rfl, fun h => by cases h⟩
theorem ltr_all (l : List Int) (k : Nat) (hk : k < l.length) : ltrF (l.length - k) (l.drop k) = if nmb (l.getD k 0) then ltrF (l.length - (k + 1)) (l.drop (k + 1)) + 1 else 0 := by
  rw [show l.length - k = l.length - (k + 1) + 1 by omega, ltr_at hk]
set_option maxHeartbeats 1000000 in
theorem refAlias_any (A : Option Addr) (n c : Nat) (zs : List Int) (w : World) (hl : zs.length = n) (hnc : n ≤ c) (hm : c ≤ 9223372036854775807) (hA : A = none → c = 0) (hb : Byte zs) (hr : RdB w A zs) :
    Calls Try.prog 15 #[.slice A n c] w (AliasP zs w) := by
  unfold AliasP
  have hz : zs = [] ∨ ∃ x t, zs = x :: t := by cases zs; exact .inl rfl; exact .inr ⟨_, _, rfl⟩
  rcases hz with rfl | ⟨x, t, rfl⟩
  · obtain rfl : n = 0 := by simpa using hl.symm
    clear hr hl
    go_enter Try.func15, Try.ntmps15
    go_wp2_with fail
    go_ret3
    exact ⟨⟨#[]⟩, rfl, rfl, Below.refl _ _⟩
  · obtain ⟨b, off, rfl, hc⟩ := hr.cons
    have hn : 1 ≤ n := by rw [← hl]; simp
    have d0 : ((n : Int) == 0) = false := beq_eq_false_iff_ne.2 (by omega)
    have d0' : (0 : Int) < (n : Int) := by omega
    have c0 := hc 0 x rfl
    rw [Nat.add_zero] at c0
    by_cases hx : x = 42
    · subst hx
      have ha : aliasF (42 :: t) = if nameF (t.take (ltrF 33 t)) then (t.take (ltrF 33 t), 1 + ltrF 33 t, true) else ([], 0, false) := by simp [aliasF, cutF]
      have HAF := Lib.hid ha
      have HR := Lib.hid hr
      have HL := Lib.hid hl
      have HB := Lib.hid hb
      have HA0 := Lib.hid hA
      clear hr hl hb hA ha hc
      go_enter Try.func15, Try.ntmps15
      go_wp2_with fail
      go_loop [5] (fun i => ∃ k : Nat, 1 ≤ k ∧ k ≤ n ∧ i = .int .i64 (k : Int) ∧ Hid (ltrF (n - 1) t = k - 1 + ltrF (n - k) ((42 :: t).drop k))) (fun i => n - (intOf i).toNat)
      case atStart => exact ⟨1, by omega, by omega, rfl, by show _ = _; simp⟩
      case round =>
        obtain ⟨k, hk1, hk, rfl, HK⟩ := hrel
        have fin : ltrF (n - 1) t = k - 1 → Hid (nameF (t.take (k - 1)) = nameF (t.take (ltrF 33 t)) ∧ (nameF (t.take (ltrF 33 t)) = true → k - 1 = ltrF 33 t)) := fun h => by
          show _ ∧ _
          rw [← h]
          by_cases hn33 : 33 ≤ n - 1
          · exact refAlias_eq t (n - 1) hn33
          · have hlt : t.length = n - 1 := by have := HL.out; simp at this; omega
            have : ltrF (n - 1) t = ltrF 33 t := by
              have key : ∀ (l : List Int) (m : Nat), l.length ≤ m → ltrF m l = ltrF l.length l := by
                intro l
                induction l with
                | nil => intro m _; cases m <;> rfl
                | cons x t ih =>
                  intro m h
                  obtain ⟨m, rfl⟩ : ∃ q, m = q + 1 := ⟨m - 1, by simp at h; omega⟩
                  simp only [ltrF, List.length_cons]
                  rw [ih m (by simpa using h)]
              rw [← hlt, key t 33 (by omega)]
            rw [this]; exact ⟨rfl, fun _ => rfl⟩
        have done_ : ltrF (n - 1) t = k - 1 → ∃ (A' : Option Addr) (s : ByteArray), byt s = t.take (k - 1) ∧ s.size ≤ maxLen ∧
            (∀ W, (Instr.slice 28 (.slice (some ⟨b, off, none⟩) n c) (some (.int .i64 1)) (some (.int .i64 (k : Int))) none).run Try.prog W = .ok (.slice A' (k - 1) (c - 1)) W) ∧
            ((convert 28 9 (.slice A' (k - 1) (c - 1))).run Try.prog w = .ok (.string s) w) := fun h => by
          obtain ⟨A', hrun, hA', hrd⟩ := slice_lh (some ⟨b, off, none⟩) n c 1 k (42 :: t) HL.out hnc HA0.out hk1 hk
          have hrw := hrd w HR.out
          have hlt : t.length = n - 1 := by have := HL.out; simp at this; omega
          rw [show List.drop 1 ((42 : Int) :: t) = t from rfl] at hrw
          have hcv := run_string_rd w A' (k - 1) (c - 1) (t.take (k - 1)) (by rw [List.length_take]; omega) hrw
          refine ⟨A', _, byt_strOfNums _ (fun z hz => HB.out z (by simp [List.mem_of_mem_take hz])), by rw [strOfNums_size, List.length_take]; unfold maxLen; omega, hrun, hcv⟩
        have last : ltrF (n - 1) t = k - 1 → True := fun _ => trivial
        by_cases hlt : k < n
        · have hcl : k < ((42 : Int) :: t).length := by rw [HL.out]; exact hlt
          obtain ⟨b', off', e', hc⟩ := HR.out.addr (by rw [HL.out]; omega)
          injection e' with e'
          injection e' with e1 e2
          subst e1 e2
          have ck := hc k hcl
          have hla := ltr_all _ k hcl
          rw [HL.out] at hla
          have d1 : (k : Int) < (n : Int) := by omega
          generalize ((42 : Int) :: t).getD k 0 = z at *
          cases hq : nmb z with
          | true =>
            have HK2 : Hid (ltrF (n - 1) t = k + 1 - 1 + ltrF (n - (k + 1)) ((42 :: t).drop (k + 1))) := by show _ = _; rw [HK.out, hla, hq]; simp; omega
            clear hla fin done_ last hc
            go_wp2_with (go_at_call 31; refine (letter_any _ _).mono ?_; rintro e w' ⟨rfl, rfl⟩)
            go_round
            case rel => exact ⟨k + 1, by omega, by omega, by go_num, HK2⟩
            case measure => simp [intOf]; omega
          | false =>
            have hfin : ltrF (n - 1) t = k - 1 := by rw [HK.out, hla, hq]; simp
            have HF := fin hfin
            obtain ⟨A', s, hsb, hss, hrun, hcv⟩ := done_ hfin
            have NC := Lib.hid (refName_any s w hss)
            rw [hsb, HF.out.1] at NC
            have HSB := Lib.hid hsb
            clear hla fin done_ last hc hsb hfin
            cases hnm : nameF (t.take (ltrF 33 t)) with
            | true =>
              have HNM := Lib.hid hnm
              have hk2 := HF.out.2 hnm
              have HK2 := Lib.hid hk2
              rw [hnm] at NC
              clear hnm hk2 HF
              go_wp2_with (first | (go_at_call 31; refine (letter_any _ _).mono ?_; rintro e w' ⟨rfl, rfl⟩) | (go_at_call 30; refine NC.out.mono ?_; rintro e w' ⟨rfl, rfl⟩))
              go_ret3
              exact ⟨s, by rw [HAF.out, HNM.out, HSB.out, HK2.out]; rfl, by rw [HAF.out, HNM.out, ← HK2.out]; simp; omega, Below.refl _ _⟩
            | false =>
              have HNM := Lib.hid hnm
              rw [hnm] at NC
              clear hnm HF
              go_wp2_with (first | (go_at_call 31; refine (letter_any _ _).mono ?_; rintro e w' ⟨rfl, rfl⟩) | (go_at_call 30; refine NC.out.mono ?_; rintro e w' ⟨rfl, rfl⟩))
              go_ret3
              exact ⟨⟨#[]⟩, by rw [HAF.out, HNM.out]; rfl, by rw [HAF.out, HNM.out]; rfl, Below.refl _ _⟩
        · have hfin : ltrF (n - 1) t = k - 1 := by rw [HK.out, ltr_end (by rw [HL.out]; omega)]; omega
          have d1 : decide ((k : Int) < (n : Int)) = false := decide_eq_false (by omega)
          have HF := fin hfin
          obtain ⟨A', s, hsb, hss, hrun, hcv⟩ := done_ hfin
          have NC := Lib.hid (refName_any s w hss)
          rw [hsb, HF.out.1] at NC
          have HSB := Lib.hid hsb
          clear fin done_ last hsb hfin
          cases hnm : nameF (t.take (ltrF 33 t)) with
          | true =>
            have HNM := Lib.hid hnm
            have hk2 := HF.out.2 hnm
            have HK2 := Lib.hid hk2
            rw [hnm] at NC
            clear hnm hk2 HF
            go_wp2_with (first | (go_at_call 30; refine NC.out.mono ?_; rintro e w' ⟨rfl, rfl⟩))
            go_ret3
            exact ⟨s, by rw [HAF.out, HNM.out, HSB.out, HK2.out]; rfl, by rw [HAF.out, HNM.out, ← HK2.out]; simp; omega, Below.refl _ _⟩
          | false =>
            have HNM := Lib.hid hnm
            rw [hnm] at NC
            clear hnm HF
            go_wp2_with (first | (go_at_call 30; refine NC.out.mono ?_; rintro e w' ⟨rfl, rfl⟩))
            go_ret3
            exact ⟨⟨#[]⟩, by rw [HAF.out, HNM.out]; rfl, by rw [HAF.out, HNM.out]; rfl, Below.refl _ _⟩
    · have dx : (x != 42) = true := bne_iff_ne.2 hx
      have ha : aliasF (x :: t) = ([], 0, false) := by simp [aliasF, cutF, hx]
      have HAF := Lib.hid ha
      clear hr hl hb hA ha hc
      go_enter Try.func15, Try.ntmps15
      go_wp2_with fail
      go_ret3
      exact ⟨⟨#[]⟩, by rw [HAF.out]; rfl, by rw [HAF.out]; rfl, Below.refl _ _⟩
end Go.Proofs.Ytpmikhhnnjhiaaa
