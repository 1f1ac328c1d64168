/- Package schema's unsigned, exponent, behindFraction, Int, Float, Resolve. -/
import Derived.Test.YtdjpdcjljpmfnaaDoorScLeaf
namespace Go.Proofs.YtdjpdcjljpmfnaaDoor
open Go.RowKit
set_option linter.unusedVariables false

/-- A text that is not empty: its first byte, and the rest. -/
theorem split_text (s : ByteArray) (h : s.toList.isEmpty = false) : ∃ (x : UInt8) (t : List UInt8), s.toList = x :: t ∧ 1 ≤ s.size ∧ s.toList.isEmpty = false ∧ (s.extract 1 s.size).toList = t ∧
    ∀ W, (Instr.index 9 (.string s) (.int .i64 0)).run Tryd.prog W = .ok (.int .u8 (x.toNat : Int)) W := by
  cases hl : s.toList with
  | nil => rw [hl] at h; cases h
  | cons x t =>
    have hsz : s.size = t.length + 1 := by rw [← list_len, hl]; rfl
    have h0 : 0 < s.size := by omega
    refine ⟨x, t, rfl, by omega, rfl, ?_, fun W => ?_⟩
    · rw [list_extract, hl, List.drop_one, List.tail_cons, List.take_of_length_le (by omega)]
    · have hx := list_at s 0 h0
      rw [hl] at hx
      simp only [List.getElem?_cons_zero, Option.some.injEq] at hx
      have := run_index_string (P := Tryd.prog) W 9 s .i64 0 Tryd.underlying9
      rw [dif_pos (by omega)] at this
      rw [this]
      simp [hx]
theorem sign_index (x : UInt8) : Lib.indexByte [45, 43] ((x.toNat : Int).toNat).toUInt8 = if x = 45 then 0 else if x = 43 then 1 else -1 := by
  have : ((x.toNat : Int).toNat).toUInt8 = x := by simp
  rw [this]
  by_cases h1 : x = 45
  · subst h1; rfl
  · by_cases h2 : x = 43
    · subst h2; rfl
    · simp [Lib.indexByte, h1, h2, show ¬ (45 : UInt8) = x from fun h => h1 h.symm, show ¬ (43 : UInt8) = x from fun h => h2 h.symm]
/-- IndexByte of the signs at a byte. -/
theorem signIx_at (W : World) (x : UInt8) (n : Int) (h : (if x = 45 then (0 : Int) else if x = 43 then 1 else -1) = n) : Calls Tryd.prog 70 #[.string ⟨#[45, 43]⟩, .int .u8 (x.toNat : Int)] W fun e w' => e = .returned (.int .i64 n) ∧ w' = W := by
  have := Tryd.strings_IndexByte ⟨#[45, 43]⟩ (x.toNat : Int) W
  rw [show (⟨#[45, 43]⟩ : ByteArray).data.toList = [45, 43] from rfl, sign_index, h] at this
  exact this
set_option maxHeartbeats 1000000 in
theorem unsigned_at {w W : World} (hb : Below w.heap.size w W) (s : ByteArray) : Calls Tryd.prog 52 #[.string s] W (StrP (unsF s.toList) w) := by
  have HB := Lib.hid hb
  clear hb
  cases he : s.toList.isEmpty with
  | true =>
    go_enter Tryd.func52, Tryd.ntmps52
    go_wp2_with fail
    go_ret
    exact ⟨s, by rw [List.isEmpty_iff.1 he]; rfl, rfl, HB.out⟩
  | false =>
    obtain ⟨x, t, hl, h1, -, hu, hix⟩ := split_text s he
    obtain ⟨u, hue⟩ : ∃ u, s.extract 1 s.size = u := ⟨_, rfl⟩
    rw [hue] at hu
    have HL := Lib.hid hl
    have HU := Lib.hid hu
    clear hl hu
    by_cases h45 : x = 45 ∨ x = 43
    · obtain ⟨n, hn, hn0⟩ : ∃ n : Int, (if x = 45 then (0 : Int) else if x = 43 then 1 else -1) = n ∧ 0 ≤ n := by
        rcases h45 with h | h
        · exact ⟨0, by rw [if_pos h], by omega⟩
        · exact ⟨1, by rw [h]; rfl, by omega⟩
      have HI := Lib.hid (signIx_at W x n hn)
      have H45 := Lib.hid h45
      clear hn h45
      go_enter Tryd.func52, Tryd.ntmps52
      go_wp2_with fail
      refine HI.out.mono ?_
      rintro e w' ⟨rfl, rfl⟩
      go_wp2_with fail
      go_ret
      exact ⟨u, by rw [HU.out, HL.out, unsF, if_pos H45.out], rfl, HB.out⟩
    · have HI := Lib.hid (signIx_at W x (-1) (by rw [if_neg (fun h => h45 (.inl h)), if_neg (fun h => h45 (.inr h))]))
      have H45 := Lib.hid h45
      clear h45
      go_enter Tryd.func52, Tryd.ntmps52
      go_wp2_with fail
      refine HI.out.mono ?_
      rintro e w' ⟨rfl, rfl⟩
      go_wp2_with fail
      go_ret
      exact ⟨s, by rw [HL.out, unsF, if_neg H45.out], rfl, HB.out⟩
theorem u8_ne (x : UInt8) (k : UInt8) : (((x.toNat : Int)) != ((k.toNat : Nat) : Int)) = !(x == k) := by
  by_cases h : x = k
  · subst h; simp
  · have : ¬ x.toNat = k.toNat := fun e => h (UInt8.toNat_inj.1 e)
    have h2 : ¬ ((x.toNat : Int)) = ((k.toNat : Nat) : Int) := by omega
    rw [beq_eq_false_iff_ne.2 h, Bool.not_false]
    exact bne_iff_ne.2 h2
set_option maxHeartbeats 1000000 in
theorem exp_at {w W : World} (hb : Below w.heap.size w W) (s : ByteArray) (b : Bool) (h : expF s.toList = b) : Calls Tryd.prog 56 #[.string s] W (BoolP b w) := by
  subst h
  have HB := Lib.hid hb
  clear hb
  cases he : s.toList.isEmpty with
  | true =>
    go_enter Tryd.func56, Tryd.ntmps56
    go_wp2_with fail
    go_ret
    exact ⟨ret_bool (by rw [List.isEmpty_iff.1 he]; rfl), HB.out⟩
  | false =>
    obtain ⟨x, t, hl, h1, -, hu, hix⟩ := split_text s he
    obtain ⟨u, hue⟩ : ∃ u, s.extract 1 s.size = u := ⟨_, rfl⟩
    rw [hue] at hu
    have HL := Lib.hid hl
    have HU := Lib.hid hu
    have e1 := u8_ne x 101
    have e2 := u8_ne x 69
    simp only [show (((101 : UInt8).toNat : Nat) : Int) = 101 from rfl] at e1
    simp only [show (((69 : UInt8).toNat : Nat) : Int) = 69 from rfl] at e2
    clear hl hu
    by_cases hx : x = 101 ∨ x = 69
    · have hx' : (x == 101 || x == 69) = true := by simpa using hx
      have HX := Lib.hid hx'
      rcases hx with hx | hx
      · rw [beq_iff_eq.2 hx] at e1
        rw [Bool.not_true] at e1
        clear e2 hx hx'
        go_enter Tryd.func56, Tryd.ntmps56
        go_wp2_with fail
        refine (unsigned_at HB.out u).mono ?_
        rintro e w' ⟨v, hv, rfl, hb2⟩
        have HV := Lib.hid hv
        have HB2 := Lib.hid hb2
        clear hv hb2
        go_wp2_with fail
        refine (allOf_at HB2.out v tenD _ (mk_list tenD) (by decide) (by decide) _ rfl).mono ?_
        rintro e w2 ⟨rfl, hb3⟩
        have HB3 := Lib.hid hb3
        clear hb3
        go_wp2_with fail
        go_ret
        exact ⟨ret_bool (by rw [HL.out, expF, HX.out, HV.out, HU.out]; simp), HB3.out⟩
      · have e1' : ((x.toNat : Int) != 101) = true := by rw [e1, hx]; rfl
        rw [beq_iff_eq.2 hx, Bool.not_true] at e2
        clear e1 hx hx'
        go_enter Tryd.func56, Tryd.ntmps56
        go_wp2_with fail
        refine (unsigned_at HB.out u).mono ?_
        rintro e w' ⟨v, hv, rfl, hb2⟩
        have HV := Lib.hid hv
        have HB2 := Lib.hid hb2
        clear hv hb2
        go_wp2_with fail
        refine (allOf_at HB2.out v tenD _ (mk_list tenD) (by decide) (by decide) _ rfl).mono ?_
        rintro e w2 ⟨rfl, hb3⟩
        have HB3 := Lib.hid hb3
        clear hb3
        go_wp2_with fail
        go_ret
        exact ⟨ret_bool (by rw [HL.out, expF, HX.out, HV.out, HU.out]; simp), HB3.out⟩
    · have hx' : (x == 101 || x == 69) = false := by simpa using hx
      have HX := Lib.hid hx'
      have e1' : ((x.toNat : Int) != 101) = true := by rw [e1, beq_eq_false_iff_ne.2 (fun h => hx (.inl h))]; rfl
      have e2' : ((x.toNat : Int) != 69) = true := by rw [e2, beq_eq_false_iff_ne.2 (fun h => hx (.inr h))]; rfl
      clear e1 e2 hx hx'
      go_enter Tryd.func56, Tryd.ntmps56
      go_wp2_with fail
      go_ret
      exact ⟨ret_bool (by rw [HL.out, expF, HX.out]; simp), HB.out⟩
/-- CutPrefix, its answers letters. -/
theorem cut_at {w W : World} (hb : Below w.heap.size w W) (s : ByteArray) (p : ByteArray) (pl : List UInt8) (hp : p.toList = pl) (b : Bool) (hB : Lib.hasPrefix s.toList pl = b) : Calls Tryd.prog 50 #[.string s, .string p] W fun e w' =>
    ∃ t : ByteArray, t.toList = Lib.trimPrefix s.toList pl ∧ e = .returned (.tuple #[.string t, .bool b]) ∧ Below w.heap.size w w' := by
  subst hp hB
  refine (Tryd.strings_CutPrefix s p W).mono ?_
  rintro e w' ⟨rfl, rfl⟩
  exact ⟨_, mk_list _, by rw [Lib.toList_data, Lib.toList_data]; rfl, hb⟩
theorem tpre_at {w W : World} (hb : Below w.heap.size w W) (s : ByteArray) (p : ByteArray) (pl : List UInt8) (hp : p.toList = pl) : Calls Tryd.prog 71 #[.string s, .string p] W (StrP (Lib.trimPrefix s.toList pl) w) := by
  subst hp
  refine (Tryd.strings_TrimPrefix s p W).mono ?_
  rintro e w' ⟨rfl, rfl⟩
  exact ⟨_, mk_list _, by rw [Lib.toList_data, Lib.toList_data]; rfl, hb⟩
set_option maxHeartbeats 1000000 in
theorem frac_at {w W : World} (hb : Below w.heap.size w W) (s : ByteArray) (hs : s.size ≤ 100000000) (b : Bool) (hB : fracB s.toList = b) : Calls Tryd.prog 55 #[.string s] W fun e w' =>
    ∃ t : ByteArray, t.toList = fracR s.toList ∧ e = .returned (.tuple #[.string t, .bool b]) ∧ Below w.heap.size w w' := by
  have HB := Lib.hid hb
  have HBB := Lib.hid hB
  clear hb hB
  go_enter Tryd.func55, Tryd.ntmps55
  go_wp2_with fail
  refine (trim_at HB.out s tenD _ (mk_list tenD) (by decide) (by decide)).mono ?_
  rintro e w1 ⟨u, hu, rfl, hb1⟩
  have HU := Lib.hid hu
  have HB1 := Lib.hid hb1
  clear hu hb1
  go_wp2_with fail
  refine (tpre_at HB1.out u _ [46] (mk_list [46])).mono ?_
  rintro e w2 ⟨v, hv, rfl, hb2⟩
  have HV := Lib.hid hv
  have HB2 := Lib.hid hb2
  clear hv hb2
  go_wp2_with fail
  refine (trim_at HB2.out v tenD _ (mk_list tenD) (by decide) (by decide)).mono ?_
  rintro e w3 ⟨r, hr, rfl, hb3⟩
  have HR := Lib.hid hr
  have HB3 := Lib.hid hb3
  clear hr hb3
  have hlu : u.size = (trmF tenD s.toList).length := by rw [← list_len, HU.out]
  have hlv : v.size = (ptF s.toList).length := by rw [← list_len, HV.out, HU.out]; rfl
  have hlr : r.size = (fracR s.toList).length := by rw [← list_len, HR.out, HV.out, HU.out]; rfl
  have hrl : r.toList = fracR s.toList := by rw [HR.out, HV.out, HU.out]; rfl
  have hus : u.size ≤ s.size := by rw [hlu, ← list_len]; exact trmF_len _ _
  have hvs : v.size ≤ u.size := by rw [← list_len, ← list_len, HV.out]; exact Lib.trimPrefix_le _ _
  have hrs : r.size ≤ v.size := by rw [← list_len, ← list_len, HR.out]; exact trmF_len _ _
  have HRL := Lib.hid hrl
  have HE : Hid ((decide (u.size < s.size) || decide (r.size < v.size)) = b) := by
    show _ = _
    rw [← HBB.out, fracB, ← hlu, ← hlv, ← hlr, list_len]
  clear hlu hlv hlr hrl HU HV HR
  by_cases hlt : u.size < s.size
  · have : b = true := by rw [← HE.out, decide_eq_true hlt]; rfl
    subst this
    go_wp2_with fail
    exact bodyPost_ret (v := .tuple #[.string r, .bool true]) (by simp [results, Tryd.results55, go_sem]) rfl ⟨r, HRL.out, rfl, HB3.out⟩
  · have hlt' : decide (u.size < s.size) = false := decide_eq_false hlt
    by_cases hlr : r.size < v.size
    · have : b = true := by rw [← HE.out, decide_eq_true hlr, Bool.or_true]
      subst this
      go_wp2_with fail
      exact bodyPost_ret (v := .tuple #[.string r, .bool true]) (by simp [results, Tryd.results55, go_sem]) rfl ⟨r, HRL.out, rfl, HB3.out⟩
    · have hlr' : decide (r.size < v.size) = false := decide_eq_false hlr
      have : b = false := by rw [← HE.out, hlt', hlr']; rfl
      subst this
      go_wp2_with fail
      exact bodyPost_ret (v := .tuple #[.string r, .bool false]) (by simp [results, Tryd.results55, go_sem]) rfl ⟨r, HRL.out, rfl, HB3.out⟩
end Go.Proofs.YtdjpdcjljpmfnaaDoor
