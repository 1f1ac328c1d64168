/- props.begins, firstWord, blanks, letters, ValidTag, with, Put, TakeAlias. -/
import Derived.Test.YtpmikhhnnjhiaaaPrLeaf
namespace Go.Proofs.Ytpmikhhnnjhiaaa
open Go.RowKit
set_option linter.unusedVariables false
set_option maxRecDepth 100000

theorem one_at {x : Int} : ∀ (k : Nat) (u : Int), [x][k]? = some u → (#[Value.int .u8 x] : Array Value)[k]? = some (Value.int .u8 u) := by
  intro k u h
  match k with
  | 0 => simp at h; subst h; rfl
  | k + 1 => simp at h
theorem index_const (c : UInt8) (W : World) : (Instr.index 9 (.string ⟨#[c]⟩) (.int .i64 0)).run Try.prog W = .ok (.int .u8 (c.toNat : Int)) W := by
  have := run_index_string (P := Try.prog) W 9 ⟨#[c]⟩ .i64 0 Try.underlying9
  rw [dif_pos ⟨by omega, by show (0 : Int) < ((1 : Nat) : Int); omega⟩] at this
  rw [this]; rfl
set_option maxHeartbeats 1000000 in
theorem begins_any (A : Option Addr) (n c : Nat) (zs : List Int) (w : World) (hl : zs.length = n) (hnc : n ≤ c) (hm : c ≤ 9223372036854775807) (hr : RdB w A zs) :
    Calls Try.prog 22 #[.slice A n c] w fun e w' => e = .returned (.bool (begF zs)) ∧ Below w.heap.size w w' := by
  cases zs with
  | nil =>
    obtain rfl : n = 0 := by simpa using hl.symm
    have d0 : decide ((0 : Int) < ((0 : Nat) : Int)) = false := rfl
    clear hr hl
    go_enter Try.func22, Try.ntmps22
    go_wp2_with fail
    go_quiet (fail)
    go_wp2_with fail
    go_ret
    exact ⟨rfl, below_draws (Below.refl _ _) _⟩
  | cons x t =>
    obtain ⟨b, off, rfl, hc⟩ := hr.cons
    have hn : 1 ≤ n := by rw [← hl]; simp
    have d0 : (0 : Int) < (n : Int) := by omega
    have d0n : 0 < n := by omega
    have c0 := hc 0 x rfl
    rw [Nat.add_zero] at c0
    have x33 : ∀ W, (Instr.index 9 (.string ⟨#[33]⟩) (.int .i64 0)).run Try.prog W = .ok (.int .u8 33) W := index_const 33
    have x38 : ∀ W, (Instr.index 9 (.string ⟨#[38]⟩) (.int .i64 0)).run Try.prog W = .ok (.int .u8 38) W := index_const 38
    clear hc hr hl
    by_cases h33 : x = 33
    · subst h33
      go_enter Try.func22, Try.ntmps22
      go_wp2_with fail
      go_quiet (fail)
      go_wp2_with fail
      go_ret
      exact ⟨rfl, below_draws (Below.refl _ _) _⟩
    · have d1 : (x == 33) = false := beq_eq_false_iff_ne.2 h33
      go_enter Try.func22, Try.ntmps22
      go_wp2_with fail
      go_quiet (fail)
      go_wp2_with fail
      go_ret
      exact ⟨ret_bool (by simp [begF, d1]), below_draws (Below.refl _ _) _⟩
/-- A text is answered: its bytes are zs. -/
def StrB (zs : List Int) (w : World) (e : Ending) (w' : World) : Prop := ∃ s : ByteArray, byt s = zs ∧ e = .returned (.string s) ∧ Below w.heap.size w w'
set_option maxHeartbeats 1000000 in
theorem firstWord_any (A : Option Addr) (n c : Nat) (zs : List Int) (w : World) (hl : zs.length = n) (hnc : n ≤ c) (hm : c ≤ 9223372036854775807) (hA : A = none → c = 0) (hb : Byte zs) (hr : RdB w A zs) :
    Calls Try.prog 24 #[.slice A n c] w (StrB (wrdF zs) w) := by
  have kc := fun (w : World) (C : Array Value) (n c : Nat) => Lib.run_convert_bytes_const (P := Try.prog) w 28 5 C n c Try.underlying28 Try.underlying5
  have hbel : Below w.heap.size w (w.alloc (.cells #[.int .u8 32] 5 (1, 2))) := (Below.refl _ _).alloc (Nat.le_refl _) _
  have hx : (w.alloc (.cells #[.int .u8 32] 5 (1, 2))).cell? ⟨w.heap.size, 0, none⟩ = some (.int .u8 32) := by rw [World.cell?_alloc_mark]; rfl
  have H := Lib.hid (cutB_word A w.heap.size 0 n c 1 zs (w.alloc (.cells #[.int .u8 32] 5 (1, 2))) hl hnc hm hA (hr.below hbel) hx (by omega) (by omega) hb)
  have HR := Lib.hid hr
  have HB := Lib.hid hb
  have HBEL := Lib.hid hbel
  have hwl := wrd_len zs
  have hwt : wrdF zs = zs.take (wrdF zs).length := List.prefix_iff_eq_take.1 (List.takeWhile_prefix _)
  have HWT := Lib.hid hwt
  clear hx hb hl hr hA hbel hwt
  go_enter Try.func24, Try.ntmps24
  go_wp2_with fail
  refine H.out.mono ?_
  rintro e w' ⟨u, v, rfl, hb2⟩
  have hb3 := below_step HBEL.out hb2
  have hcv := run_string_rd w' A (wrdF zs).length c (wrdF zs) rfl (by have := (HR.out.below hb3).take (wrdF zs).length; rwa [← HWT.out] at this)
  have HB3 := Lib.hid hb3
  clear hb3 hb2 kc
  go_wp2_with fail
  go_ret
  exact ⟨_, byt_strOfNums _ (by rw [HWT.out]; exact HB.out.take _), rfl, HB3.out⟩
set_option maxHeartbeats 1000000 in
theorem blanks_any (A : Option Addr) (n c : Nat) (zs : List Int) (w : World) (hl : zs.length = n) (hnc : n ≤ c) (hm : c ≤ 9223372036854775807) (hr : RdB w A zs) :
    Calls Try.prog 23 #[.slice A n c] w fun e w' => e = .returned (.int .i64 (blkF zs : Int)) ∧ w = w' := by
  have HR := Lib.hid hr
  have HL := Lib.hid hl
  clear hr hl
  go_enter Try.func23, Try.ntmps23
  go_wp2
  go_loop [3] (fun i => ∃ k : Nat, k ≤ n ∧ i = .int .i64 (k : Int) ∧ Hid (blkF zs = k + blkF (zs.drop k))) (fun i => n - (intOf i).toNat)
  case atStart => exact ⟨0, Nat.zero_le _, rfl, by show _ = _; simp⟩
  case round =>
    obtain ⟨k, hk, rfl, HA⟩ := hrel
    by_cases hlt : k < n
    · obtain ⟨b, off, rfl, hc⟩ := HR.out.addr (by rw [HL.out]; omega)
      have ck := hc k (by rw [HL.out]; exact hlt)
      have hbk := blk_at (l := zs) (k := k) (by rw [HL.out]; exact hlt)
      have d1 : (k : Int) < (n : Int) := by omega
      generalize zs.getD k 0 = x at *
      by_cases h32 : x = 32
      · subst h32
        have HK : Hid (blkF zs = k + 1 + blkF (zs.drop (k + 1))) := by show _ = _; rw [HA.out, hbk, if_pos rfl]; omega
        clear hbk hc
        go_wp2_with (go_at_call 34; refine (space_any _ _).mono ?_; rintro e w' ⟨rfl, rfl⟩)
        go_round
        case rel => exact ⟨k + 1, by omega, by go_num, HK⟩
        case measure => simp [intOf]; omega
      · have ds : spc x = false := beq_eq_false_iff_ne.2 h32
        have HK : Hid (blkF zs = k) := by show _ = _; rw [HA.out, hbk, if_neg h32]; omega
        clear hbk hc
        go_wp2_with (go_at_call 34; refine (space_any _ _).mono ?_; rintro e w' ⟨rfl, rfl⟩)
        go_ret
        exact ⟨ret_int (by rw [HK.out]), rfl⟩
    · have HK : Hid (blkF zs = k) := by show _ = _; rw [HA.out, blk_end (by rw [HL.out]; omega)]; omega
      have d1 : decide ((k : Int) < (n : Int)) = false := decide_eq_false (by omega)
      go_wp2
      go_ret
      exact ⟨ret_int (by rw [HK.out]), rfl⟩
set_option maxHeartbeats 1000000 in
theorem letters_any (A : Option Addr) (n c : Nat) (zs : List Int) (w : World) (hl : zs.length = n) (hnc : n ≤ c) (hm : c ≤ 9223372036854775807) (hA : A = none → c = 0) (hb : Byte zs) (hr : RdB w A zs) :
    Calls Try.prog 27 #[.slice A n c] w fun e w' => e = .returned (.int .i64 (ltrF 33 zs : Int)) ∧ w = w' := by
  have HR := Lib.hid hr
  have HL := Lib.hid hl
  have HB := Lib.hid hb
  have HA0 := Lib.hid hA
  clear hr hl hb hA
  go_enter Try.func27, Try.ntmps27
  go_wp2
  go_loop [3] (fun i => ∃ k : Nat, k ≤ n ∧ k ≤ 33 ∧ i = .int .i64 (k : Int) ∧ Hid (ltrF 33 zs = k + ltrF (33 - k) (zs.drop k))) (fun i => n - (intOf i).toNat)
  case atStart => exact ⟨0, Nat.zero_le _, by omega, rfl, by show _ = _; simp⟩
  case round =>
    obtain ⟨k, hk, hk33, rfl, HA⟩ := hrel
    by_cases hlt : k < n
    · have d1 : (k : Int) < (n : Int) := by omega
      by_cases h32 : k ≤ 32
      · have d2 : (k : Int) ≤ 32 := by omega
        obtain ⟨A', hrun, hA', hrd⟩ := slice_lh A n c k (k + 1) zs HL.out hnc HA0.out (by omega) (by omega)
        rw [show (((k + 1 : Nat)) : Int) = (k : Int) + 1 by omega] at hrun
        have hzk : (zs.drop k).take (k + 1 - k) = [zs.getD k 0] := by
          rw [drop_cons_at (by rw [HL.out]; exact hlt), show k + 1 - k = 1 by omega]; rfl
        have hrx := hrd w HR.out
        rw [hzk] at hrx
        have hcw := run_string_rd w A' 1 (c - k) _ rfl hrx
        have hx := HB.out.at_ (k := k) (by rw [HL.out]; exact hlt)
        have hla := ltr_at (l := zs) (k := k) (m := 32 - k) (by rw [HL.out]; exact hlt)
        rw [show 32 - k + 1 = 33 - k by omega] at hla
        have hnm := name_any (strOfNums [zs.getD k 0]) w (by rw [strOfNums_size]; unfold maxLen; simp)
        rw [byt_strOfNums _ (by intro z hz; simp at hz; subst hz; exact hx), name_one] at hnm
        generalize strOfNums [zs.getD k 0] = sx at *
        generalize zs.getD k 0 = x at *
        have HN := Lib.hid hnm
        cases hq : nmb x with
        | true =>
          have HK : Hid (ltrF 33 zs = k + 1 + ltrF (33 - (k + 1)) (zs.drop (k + 1))) := by show _ = _; rw [HA.out, hla, hq, show 33 - (k + 1) = 32 - k by omega]; simp; omega
          clear hrx hzk hrd hla hnm hx
          go_wp2_with (go_at_call 28; refine HN.out.mono ?_; rintro e w' ⟨rfl, rfl⟩)
          go_round
          case rel => exact ⟨k + 1, by omega, by omega, by go_num, HK⟩
          case measure => simp [intOf]; omega
        | false =>
          have HK : Hid (ltrF 33 zs = k) := by show _ = _; rw [HA.out, hla, hq]; simp
          clear hrx hzk hrd hla hnm hx
          go_wp2_with (go_at_call 28; refine HN.out.mono ?_; rintro e w' ⟨rfl, rfl⟩)
          go_ret
          exact ⟨ret_int (by rw [HK.out]), rfl⟩
      · have HK : Hid (ltrF 33 zs = k) := by show _ = _; rw [HA.out, show 33 - k = 0 by omega]; simp [ltrF]
        have d2 : decide ((k : Int) ≤ 32) = false := decide_eq_false (by omega)
        go_wp2
        go_ret
        exact ⟨ret_int (by rw [HK.out]), rfl⟩
    · have HK : Hid (ltrF 33 zs = k) := by show _ = _; rw [HA.out, ltr_end (by rw [HL.out]; omega)]; omega
      have d1 : decide ((k : Int) < (n : Int)) = false := decide_eq_false (by omega)
      go_wp2
      go_ret
      exact ⟨ret_int (by rw [HK.out]), rfl⟩

set_option maxHeartbeats 1000000 in
theorem validTag_any (s : ByteArray) (hs : s.size ≤ maxLen) (w : World) :
    Calls Try.prog 17 #[.string s] w fun e w' => e = .returned (.bool (validF (byt s))) ∧ w = w' := by
  have hv : validF (byt s) = ((cutF 33 (byt s)).2 && ((cutF 33 (byt s)).1.isEmpty || nameF (cutF 33 (cutF 33 (byt s)).1).1)) := rfl
  have HV := Lib.hid hv
  have H := Lib.hid (cutPfx_any s ⟨#[33]⟩ 33 rfl hs w)
  clear hv
  go_enter Try.func17, Try.ntmps17
  go_wp2_with fail
  refine H.out.mono ?_
  rintro e w' ⟨t, ht, hz, rfl, rfl⟩
  rw [← ht] at HV
  clear H ht
  generalize (cutF 33 (byt s)).2 = b at *
  cases b with
  | false =>
    go_wp2_with fail
    go_ret
    exact ⟨ret_bool HV.out.symm, rfl⟩
  | true =>
    cases he : t.toList.isEmpty with
    | true =>
      have HE : Hid ((byt t).isEmpty = true) := by show _ = _; rw [← empty_byt]; exact he
      go_wp2_with fail
      go_ret
      exact ⟨ret_bool (by rw [HV.out, HE.out]; rfl), rfl⟩
    | false =>
      have HE : Hid ((byt t).isEmpty = false) := by show _ = _; rw [← empty_byt]; exact he
      have hz' : t.size ≤ maxLen := Nat.le_trans hz hs
      go_wp2_with fail
      refine (trimPfx_any t ⟨#[33]⟩ 33 rfl hz' w).mono ?_
      rintro e w' ⟨u, hu, hz2, rfl, rfl⟩
      have HU := Lib.hid hu
      clear hu
      go_wp2_with fail
      refine (name_any u w (Nat.le_trans hz2 hz')).mono ?_
      rintro e w' ⟨rfl, rfl⟩
      go_wp2_with fail
      go_ret
      exact ⟨ret_bool (by rw [HV.out, HE.out, HU.out]; rfl), rfl⟩
/-- A struct of two texts. -/
def prV (t a : ByteArray) : Value := .agg #[.string t, .string a]
def WithP (t a l : List Int) (w : World) (e : Ending) (w' : World) : Prop :=
  ∃ t' a' : ByteArray, byt t' = (withF t a l).1 ∧ byt a' = (withF t a l).2.1 ∧ e = .returned (.tuple #[.agg #[.string t', .string a'], .bool (withF t a l).2.2]) ∧ Below w.heap.size w w'
set_option maxHeartbeats 1000000 in
theorem with_any (t a s : ByteArray) (hs : s.size ≤ maxLen) (w : World) :
    Calls Try.prog 25 #[.agg #[.string t, .string a], .string s] w (WithP (byt t) (byt a) (byt s) w) := by
  have hw : withF (byt t) (byt a) (byt s) = if (cutF 38 (byt s)).2 then (if (byt a).isEmpty && nameF (cutF 38 (byt s)).1 then (byt t, (cutF 38 (byt s)).1, true) else ([], [], false)) else (if (byt t).isEmpty && validF (byt s) then (byt s, byt a, true) else ([], [], false)) := rfl
  unfold WithP
  have HW := Lib.hid hw
  clear hw
  go_enter Try.func25, Try.ntmps25
  go_wp2_with fail
  refine (cutPfx_any s ⟨#[38]⟩ 38 rfl hs _).mono ?_
  rintro e w' ⟨u, hu, hz, rfl, rfl⟩
  rw [← hu] at HW
  clear hu
  have HB2 : Hid (Below w.heap.size w ((w.alloc (.cells #[.string t, .string a] 25)).alloc (.cells #[.string ⟨#[]⟩, .string ⟨#[]⟩] 25))) := ((Below.refl _ _).alloc (Nat.le_refl _) _).alloc (by simp) _
  have hz' : u.size ≤ maxLen := Nat.le_trans hz hs
  generalize (cutF 38 (byt s)).2 = b at *
  cases b with
  | true =>
    cases he : a.toList.isEmpty with
    | true =>
      have HE : Hid ((byt a).isEmpty = true) := by show _ = _; rw [← empty_byt]; exact he
      cases hn : nameF (byt u) with
      | true =>
        have HN := Lib.hid hn
        have NC := Lib.hid (name_any u · hz')
        rw [hn] at NC
        clear hn
        go_wp2_with (go_at_call 28; refine (NC.out _).mono ?_; rintro e w' ⟨rfl, rfl⟩)
        have hwv : withF (byt t) (byt a) (byt s) = (byt t, byt u, true) := by rw [HW.out]; simp [HE.out, HN.out]
        exact bodyPost_ret (v := .tuple #[.agg #[.string t, .string u], .bool true]) (by simp [results, Try.results25, go_sem]) rfl ⟨t, u, by rw [hwv], by rw [hwv], by rw [hwv], ((Below.refl _ _).alloc (Nat.le_refl _) _).alloc (by simp) _⟩
      | false =>
        have HN := Lib.hid hn
        have NC := Lib.hid (name_any u · hz')
        rw [hn] at NC
        clear hn
        go_wp2_with (go_at_call 28; refine (NC.out _).mono ?_; rintro e w' ⟨rfl, rfl⟩)
        have hwv : withF (byt t) (byt a) (byt s) = ([], [], false) := by rw [HW.out]; simp [HE.out, HN.out]
        exact bodyPost_ret (v := .tuple #[.agg #[.string ⟨#[]⟩, .string ⟨#[]⟩], .bool false]) (by simp [results, Try.results25, go_sem]) rfl ⟨⟨#[]⟩, ⟨#[]⟩, by rw [hwv]; rfl, by rw [hwv]; rfl, by rw [hwv], ((Below.refl _ _).alloc (Nat.le_refl _) _).alloc (by simp) _⟩
    | false =>
      have HE : Hid ((byt a).isEmpty = false) := by show _ = _; rw [← empty_byt]; exact he
      go_wp2_with fail
      have hwv : withF (byt t) (byt a) (byt s) = ([], [], false) := by rw [HW.out]; simp [HE.out]
      exact bodyPost_ret (v := .tuple #[.agg #[.string ⟨#[]⟩, .string ⟨#[]⟩], .bool false]) (by simp [results, Try.results25, go_sem]) rfl ⟨⟨#[]⟩, ⟨#[]⟩, by rw [hwv]; rfl, by rw [hwv]; rfl, by rw [hwv], ((Below.refl _ _).alloc (Nat.le_refl _) _).alloc (by simp) _⟩
  | false =>
    cases he : t.toList.isEmpty with
    | true =>
      have HE : Hid ((byt t).isEmpty = true) := by show _ = _; rw [← empty_byt]; exact he
      cases hn : validF (byt s) with
      | true =>
        have HN := Lib.hid hn
        have NC := Lib.hid (validTag_any s hs ·)
        rw [hn] at NC
        clear hn
        go_wp2_with (go_at_call 17; refine (NC.out _).mono ?_; rintro e w' ⟨rfl, rfl⟩)
        have hwv : withF (byt t) (byt a) (byt s) = (byt s, byt a, true) := by rw [HW.out]; simp [HE.out, HN.out]
        exact bodyPost_ret (v := .tuple #[.agg #[.string s, .string a], .bool true]) (by simp [results, Try.results25, go_sem]) rfl ⟨s, a, by rw [hwv], by rw [hwv], by rw [hwv], ((Below.refl _ _).alloc (Nat.le_refl _) _).alloc (by simp) _⟩
      | false =>
        have HN := Lib.hid hn
        have NC := Lib.hid (validTag_any s hs ·)
        rw [hn] at NC
        clear hn
        go_wp2_with (go_at_call 17; refine (NC.out _).mono ?_; rintro e w' ⟨rfl, rfl⟩)
        have hwv : withF (byt t) (byt a) (byt s) = ([], [], false) := by rw [HW.out]; simp [HE.out, HN.out]
        exact bodyPost_ret (v := .tuple #[.agg #[.string ⟨#[]⟩, .string ⟨#[]⟩], .bool false]) (by simp [results, Try.results25, go_sem]) rfl ⟨⟨#[]⟩, ⟨#[]⟩, by rw [hwv]; rfl, by rw [hwv]; rfl, by rw [hwv], ((Below.refl _ _).alloc (Nat.le_refl _) _).alloc (by simp) _⟩
    | false =>
      have HE : Hid ((byt t).isEmpty = false) := by show _ = _; rw [← empty_byt]; exact he
      go_wp2_with fail
      have hwv : withF (byt t) (byt a) (byt s) = ([], [], false) := by rw [HW.out]; simp [HE.out]
      exact bodyPost_ret (v := .tuple #[.agg #[.string ⟨#[]⟩, .string ⟨#[]⟩], .bool false]) (by simp [results, Try.results25, go_sem]) rfl ⟨⟨#[]⟩, ⟨#[]⟩, by rw [hwv]; rfl, by rw [hwv]; rfl, by rw [hwv], ((Below.refl _ _).alloc (Nat.le_refl _) _).alloc (by simp) _⟩

/-- A struct of two texts in memory of our own. -/
def Own2 (W : World) (g : Nat) (T : TypeId) (t a : ByteArray) : Prop := W.heap[g]? = some (.cells #[.string t, .string a] T)
section
variable {W W' : World} {g : Nat} {T : TypeId} {t a t' a' : ByteArray}
theorem Own2.lt (h : Own2 W g T t a) : g < W.heap.size := by unfold Own2 at h; exact (Array.getElem?_eq_some_iff.1 h).1
theorem Own2.c0 (h : Own2 W g T t a) : W.cell? ⟨g, 0, none⟩ = some (.string t) := by unfold Own2 at h; simp [World.cell?, h]
theorem Own2.c1 (h : Own2 W g T t a) : W.cell? ⟨g, 1, none⟩ = some (.string a) := by unfold Own2 at h; simp [World.cell?, h]
theorem Own2.z0 (h : Own2 W g T t a) : W.frozen? ⟨g, 0, none⟩ = false := by unfold Own2 at h; simp [World.frozen?, h]
theorem Own2.z1 (h : Own2 W g T t a) : W.frozen? ⟨g, 1, none⟩ = false := by unfold Own2 at h; simp [World.frozen?, h]
theorem Own2.set (h : Own2 W g T t a) : Own2 ((W.setCell ⟨g, 0, none⟩ (.string t')).setCell ⟨g, 1, none⟩ (.string a')) g T t' a' := by
  unfold Own2 at h ⊢; simp [World.setCell, Array.getElem?_modify, h]
theorem Own2.set0 (h : Own2 W g T t a) : Own2 (W.setCell ⟨g, 0, none⟩ (.string t')) g T t' a := by
  unfold Own2 at h ⊢; simp [World.setCell, Array.getElem?_modify, h]
theorem Own2.set1 (h : Own2 W g T t a) : Own2 (W.setCell ⟨g, 1, none⟩ (.string a')) g T t a' := by
  unfold Own2 at h ⊢; simp [World.setCell, Array.getElem?_modify, h]
theorem Own2.below (h : Own2 W g T t a) (hb : Below W.heap.size W W') : Own2 W' g T t a := (hb.block g h.lt).trans h
theorem Own2.new (w : World) (T : TypeId) (t a : ByteArray) : Own2 (w.alloc (.cells #[.string t, .string a] T)) w.heap.size T t a := heap_alloc_new w _
end
theorem set2_below {w W : World} {g : Nat} {y0 y1 : Value} (h : Below w.heap.size w W) (hg : w.heap.size ≤ g) : Below w.heap.size w ((W.setCell ⟨g, 0, none⟩ y0).setCell ⟨g, 1, none⟩ y1) :=
  (h.setCell (p := ⟨g, 0, none⟩) hg _).setCell (p := ⟨g, 1, none⟩) hg _

set_option maxHeartbeats 1000000 in
theorem put_any (t a : ByteArray) (ht : t.size ≤ 1000000) (ha : a.size ≤ 1000000) (w : World) :
    Calls Try.prog 19 #[.agg #[.string t, .string a]] w (StrB (putF (byt t) (byt a)) w) := by
  unfold StrB
  have hp : putF (byt t) (byt a) = if (byt a).isEmpty then byt t else if (byt t).isEmpty then 38 :: byt a else 38 :: byt a ++ 32 :: byt t := rfl
  have HP := Lib.hid hp
  clear hp
  cases he : a.toList.isEmpty with
  | true =>
    have HE : Hid ((byt a).isEmpty = true) := by show _ = _; rw [← empty_byt]; exact he
    go_enter Try.func19, Try.ntmps19
    go_wp2_with fail
    go_ret
    exact ⟨_, by rw [HP.out, HE.out]; rfl, rfl, (Below.refl _ _).alloc (Nat.le_refl _) _⟩
  | false =>
    have HE : Hid ((byt a).isEmpty = false) := by show _ = _; rw [← empty_byt]; exact he
    cases hf : t.toList.isEmpty with
    | true =>
      have HF : Hid ((byt t).isEmpty = true) := by show _ = _; rw [← empty_byt]; exact hf
      go_enter Try.func19, Try.ntmps19
      go_wp2_with fail
      go_ret
      exact ⟨_, by rw [HP.out, HE.out, HF.out, byt_append]; rfl, rfl, (Below.refl _ _).alloc (Nat.le_refl _) _⟩
    | false =>
      have HF : Hid ((byt t).isEmpty = false) := by show _ = _; rw [← empty_byt]; exact hf
      go_enter Try.func19, Try.ntmps19
      go_wp2_with fail
      go_ret
      exact ⟨_, by rw [HP.out, HE.out, HF.out, byt_append, byt_append, byt_append, List.append_assoc]; rfl, rfl, (Below.refl _ _).alloc (Nat.le_refl _) _⟩

def AliasP (zs : List Int) (w : World) (e : Ending) (w' : World) : Prop :=
  ∃ s : ByteArray, byt s = (aliasF zs).1 ∧ e = .returned (.tuple #[.string s, .int .i64 ((aliasF zs).2.1 : Int), .bool (aliasF zs).2.2]) ∧ Below w.heap.size w w'
set_option maxHeartbeats 1000000 in
theorem takeAlias_any (A : Option Addr) (n c : Nat) (zs : List Int) (w : World) (hl : zs.length = n) (hnc : n ≤ c) (hm : c ≤ 9223372036854775807) (hA : A = none → c = 0) (hb : Byte zs) (hr : RdB w A zs) :
    Calls Try.prog 11 #[.slice A n c] w (AliasP zs w) := by
  have kc := fun (w : World) (C : Array Value) (n c : Nat) => Lib.run_convert_bytes_const (P := Try.prog) w 28 5 C n c Try.underlying28 Try.underlying5
  have hbel : Below w.heap.size w (w.alloc (.cells #[.int .u8 42] 5 (1, 2))) := (Below.refl _ _).alloc (Nat.le_refl _) _
  have H := Lib.hid (cutPfxB_any A (some ⟨w.heap.size, 0, none⟩) n c 1 zs 42 (w.alloc (.cells #[.int .u8 42] 5 (1, 2))) hl hnc hm hA (hr.below hbel) (RdB.new rfl one_at) hb (by intro z hz; simp at hz; subst hz; omega))
  have hby : Byte (cutF 42 zs).1 := by
    cases hc : (cutF 42 zs).2 with
    | true => rw [cut_drop _ _ hc]; exact hb.drop 1
    | false => rw [cut_false _ _ hc]; exact hb
  have HY := Lib.hid hby
  have HBEL := Lib.hid hbel
  have ha : aliasF zs = if (cutF 42 zs).2 && nameF ((cutF 42 zs).1.take (ltrF 33 (cutF 42 zs).1)) then ((cutF 42 zs).1.take (ltrF 33 (cutF 42 zs).1), 1 + ltrF 33 (cutF 42 zs).1, true) else ([], 0, false) := rfl
  unfold AliasP
  have HAF := Lib.hid ha
  clear hl hA hb hr hbel hby ha
  go_enter Try.func11, Try.ntmps11
  go_wp2_with fail
  refine H.out.mono ?_
  rintro e w' ⟨A', n', c', hn', hnc', hc', hA', hrd, rfl, rfl⟩
  clear H kc
  generalize (cutF 42 zs).1 = r at *
  generalize (cutF 42 zs).2 = b at *
  have HRD := Lib.hid hrd
  have HN' := Lib.hid hn'
  have HA' := Lib.hid hA'
  clear hrd hn' hA'
  generalize w.alloc (.cells #[.int .u8 42] 5 (1, 2)) = W at *
  cases b with
  | false =>
    go_wp2_with fail
    go_ret3
    exact ⟨⟨#[]⟩, by rw [HAF.out]; rfl, by rw [HAF.out]; rfl, HBEL.out⟩
  | true =>
    go_wp2_with fail
    refine (letters_any A' n' c' r W HN'.out.symm hnc' hc' HA'.out HY.out HRD.out).mono ?_
    rintro e w' ⟨rfl, rfl⟩
    have hk := (ltr_len 33 r).1
    have hk2 := (ltr_len 33 r).2
    rw [← HN'.out] at hk
    generalize ltrF 33 r = k at *
    have e1 := slice_h A' n' c' k hk hnc' HA'.out
    have hcv := run_string_rd W A' k c' (r.take k) (by rw [List.length_take, ← HN'.out]; omega) (HRD.out.take k)
    obtain ⟨s, hs⟩ : ∃ s, strOfNums (r.take k) = s := ⟨_, rfl⟩
    have hsb : byt s = r.take k := by rw [← hs]; exact byt_strOfNums _ (HY.out.take k)
    have hsz : s.size = k := by rw [← byt_len, hsb, List.length_take, ← HN'.out]; omega
    rw [hs] at hcv
    have HSB := Lib.hid hsb
    have HSZ := Lib.hid hsz
    have hsm : s.size ≤ 33 := by omega
    have NC := Lib.hid (name_any s W (by unfold maxLen; omega))
    rw [hsb] at NC
    clear hs hsb hsz
    cases hn : nameF (r.take k) with
    | true =>
      have HN := Lib.hid hn
      rw [hn] at NC
      clear hn
      go_wp2_with (go_at_call 28; refine NC.out.mono ?_; rintro e w' ⟨rfl, rfl⟩)
      go_ret3
      exact ⟨s, by rw [HAF.out, HN.out, HSB.out]; rfl, by rw [HAF.out, HN.out, ← HSZ.out]; simp, HBEL.out⟩
    | false =>
      have HN := Lib.hid hn
      rw [hn] at NC
      clear hn
      go_wp2_with (go_at_call 28; refine NC.out.mono ?_; rintro e w' ⟨rfl, rfl⟩)
      go_ret3
      exact ⟨⟨#[]⟩, by rw [HAF.out, HN.out]; rfl, by rw [HAF.out, HN.out]; rfl, HBEL.out⟩
end Go.Proofs.Ytpmikhhnnjhiaaa
