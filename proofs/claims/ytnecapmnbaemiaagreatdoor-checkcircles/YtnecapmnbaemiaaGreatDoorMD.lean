/- What a plain scalar is, as plain functions on lists of bytes: nullF, boolF, intF, floF, resF. No function of the program. · Package schema's own functions that stand on few others: Null, Bool, notNumber, infinite, allOf, unsigned, exponent, behindFraction. · Package schema's unsigned, exponent, behindFraction, Int, Float, Resolve. · Package schema's Int, Float, Resolve; the document's example. · The document's one, sign, digits, Null, Bool, Int. · The document's digits. · The document's Int; what Float comes to, by counts of digits. · The document's Float and Resolve. -/
import Derived.Test.YtnecapmnbaemiaaGreatDoorMA
import Derived.Lib.SlTrimSet
import Derived.Test.YtnecapmnbaemiaaGreatDoorShelf
import Derived.Deep.DeepCutAuto
set_option linter.unusedSimpArgs false
set_option linter.unusedVariables false
namespace Go.Proofs.YtnecapmnbaemiaaGreatDoor
set_option linter.unusedVariables false
set_option maxRecDepth 100000
def octD : List UInt8 := [48, 49, 50, 51, 52, 53, 54, 55]
def tenD : List UInt8 := [48, 49, 50, 51, 52, 53, 54, 55, 56, 57]
def hexU : List UInt8 := [48, 49, 50, 51, 52, 53, 54, 55, 56, 57, 97, 98, 99, 100, 101, 102, 65, 66, 67, 68, 69, 70]
def nullF (l : List UInt8) : Bool := l.isEmpty || l == [126] || l == [110, 117, 108, 108] || l == [78, 117, 108, 108] || l == [78, 85, 76, 76]
def boolF (l : List UInt8) : Bool := l == [116, 114, 117, 101] || l == [84, 114, 117, 101] || l == [84, 82, 85, 69] || l == [102, 97, 108, 115, 101] || l == [70, 97, 108, 115, 101] || l == [70, 65, 76, 83, 69]
def nanF (l : List UInt8) : Bool := l == [46, 110, 97, 110] || l == [46, 78, 97, 78] || l == [46, 78, 65, 78]
def infF (l : List UInt8) : Bool := l == [46, 105, 110, 102] || l == [46, 73, 110, 102] || l == [46, 73, 78, 70]
def trmF (cs l : List UInt8) : List UInt8 := l.dropWhile (cs.contains ·)
def allF (cs l : List UInt8) : Bool := !l.isEmpty && (trmF cs l).isEmpty
def unsF : List UInt8 → List UInt8
  | [] => []
  | c :: t => if c = 45 ∨ c = 43 then t else c :: t
def intF (l : List UInt8) : Bool :=
  if Lib.hasPrefix l [48, 111] then allF octD (Lib.trimPrefix l [48, 111]) else if Lib.hasPrefix l [48, 120] then allF hexU (Lib.trimPrefix l [48, 120]) else allF tenD (unsF l)
def ptF (l : List UInt8) : List UInt8 := Lib.trimPrefix (trmF tenD l) [46]
def fracR (l : List UInt8) : List UInt8 := trmF tenD (ptF l)
def fracB (l : List UInt8) : Bool := decide ((trmF tenD l).length < l.length) || decide ((fracR l).length < (ptF l).length)
def expF : List UInt8 → Bool
  | [] => false
  | c :: t => (c == 101 || c == 69) && allF tenD (unsF t)
def floF (l : List UInt8) : Bool := nanF l || infF (unsF l) || (fracB (unsF l) && ((fracR (unsF l)).isEmpty || expF (fracR (unsF l))))
def resF (l : List UInt8) : List UInt8 :=
  if nullF l then [33, 33, 110, 117, 108, 108] else if boolF l then [33, 33, 98, 111, 111, 108] else if intF l then [33, 33, 105, 110, 116] else if floF l then [33, 33, 102, 108, 111, 97, 116] else [33, 33, 115, 116, 114]
def mk (l : List UInt8) : ByteArray := ⟨l.toArray⟩
theorem mk_list (l : List UInt8) : (mk l).toList = l := by rw [Lib.toList_data]; rfl
theorem list_inj {s t : ByteArray} (h : s.toList = t.toList) : s = t := by
  rw [Lib.toList_data, Lib.toList_data] at h
  exact ByteArray.ext (Array.toList_inj.1 h)
theorem list_len (s : ByteArray) : s.toList.length = s.size := by rw [Lib.toList_data]; simp
theorem list_extract (s : ByteArray) (a b : Nat) : (s.extract a b).toList = (s.toList.drop a).take (b - a) := by
  rw [Lib.toList_data, Lib.toList_data, Lib.extract_data]
theorem list_at (s : ByteArray) (k : Nat) (h : k < s.size) : s.toList[k]? = some s[k] := by
  rw [Lib.toList_data, Array.getElem?_toList, Array.getElem?_eq_getElem (by simpa using h)]; rfl
theorem trmF_take (cs l : List UInt8) : l.takeWhile (cs.contains ·) ++ trmF cs l = l := List.takeWhile_append_dropWhile
theorem trmF_len (cs l : List UInt8) : (trmF cs l).length ≤ l.length := by
  have := congrArg List.length (trmF_take cs l)
  rw [List.length_append] at this; omega
open Go.RowKit
def BoolP (b : Bool) (w : World) (e : Ending) (w' : World) : Prop := e = .returned (.bool b) ∧ Below w.heap.size w w'
def StrP (l : List UInt8) (w : World) (e : Ending) (w' : World) : Prop := ∃ t : ByteArray, t.toList = l ∧ e = .returned (.string t) ∧ Below w.heap.size w w'
set_option maxHeartbeats 400000 in
theorem null_at {w W : World} (hb : Below w.heap.size w W) (s : ByteArray) (b : Bool) (h : nullF s.toList = b) : Calls Tryz.prog 87 #[.string s] W (BoolP b w) := by
  subst h
  have HB := Lib.hid hb
  clear hb
  go_enter Tryz.func87, Tryz.ntmps87
  go_wp2
  all_goals first | (exfalso; simp_all; done) | (go_ret; exact ⟨ret_bool (by simp_all [nullF]), HB.out⟩)
set_option maxHeartbeats 400000 in
theorem bool_at {w W : World} (hb : Below w.heap.size w W) (s : ByteArray) (b : Bool) (h : boolF s.toList = b) : Calls Tryz.prog 88 #[.string s] W (BoolP b w) := by
  subst h
  have HB := Lib.hid hb
  clear hb
  go_enter Tryz.func88, Tryz.ntmps88
  go_wp2
  all_goals first | (exfalso; simp_all; done) | (go_ret; exact ⟨ret_bool (by simp_all [boolF]), HB.out⟩)
set_option maxHeartbeats 400000 in
theorem nan_at {w W : World} (hb : Below w.heap.size w W) (s : ByteArray) (b : Bool) (h : nanF s.toList = b) : Calls Tryz.prog 101 #[.string s] W (BoolP b w) := by
  subst h
  have HB := Lib.hid hb
  clear hb
  go_enter Tryz.func101, Tryz.ntmps101
  go_wp2
  all_goals first | (exfalso; simp_all; done) | (go_ret; exact ⟨ret_bool (by simp_all [nanF]), HB.out⟩)
set_option maxHeartbeats 400000 in
theorem inf_at {w W : World} (hb : Below w.heap.size w W) (s : ByteArray) (b : Bool) (h : infF s.toList = b) : Calls Tryz.prog 102 #[.string s] W (BoolP b w) := by
  subst h
  have HB := Lib.hid hb
  clear hb
  go_enter Tryz.func102, Tryz.ntmps102
  go_wp2
  all_goals first | (exfalso; simp_all; done) | (go_ret; exact ⟨ret_bool (by simp_all [infF]), HB.out⟩)
/-- TrimLeft, its answer a letter. -/
theorem trim_at {w W : World} (hb : Below w.heap.size w W) (s : ByteArray) (cs : List UInt8) (set : ByteArray) (hset : set.toList = cs) (hs : set.size ≤ 100) (ha : cs.all (fun b => decide (b.toNat < 128)) = true) :
    Calls Tryz.prog 114 #[.string s, .string set] W (StrP (trmF cs s.toList) w) := by
  subst hset
  refine (Tryz.strings_TrimLeft s set W (by omega) (by rw [Lib.toList_data] at ha; exact ascii_of_all ha)).mono ?_
  rintro e w' ⟨rfl, hb2⟩
  exact ⟨_, mk_list _, by rw [Lib.toList_data, Lib.toList_data]; rfl, below_step hb hb2⟩
set_option maxHeartbeats 400000 in
theorem allOf_at {w W : World} (hb : Below w.heap.size w W) (s : ByteArray) (cs : List UInt8) (set : ByteArray) (hset : set.toList = cs) (hs : set.size ≤ 100) (ha : cs.all (fun b => decide (b.toNat < 128)) = true) (b : Bool) (h : allF cs s.toList = b) :
    Calls Tryz.prog 99 #[.string s, .string set] W (BoolP b w) := by
  subst h
  have HB := Lib.hid hb
  have HT := Lib.hid (trim_at hb s cs set hset hs ha)
  clear hb hset hs ha
  cases he : s.toList.isEmpty with
  | true =>
    go_enter Tryz.func99, Tryz.ntmps99
    go_wp2_with fail
    go_ret
    exact ⟨ret_bool (by simp [allF, he]), HB.out⟩
  | false =>
    go_enter Tryz.func99, Tryz.ntmps99
    go_wp2_with fail
    refine HT.out.mono ?_
    rintro e w' ⟨t, ht, rfl, hb2⟩
    have H2 := Lib.hid ht
    have HB2 := Lib.hid hb2
    clear ht hb2
    go_wp2_with fail
    go_ret
    exact ⟨ret_bool (by rw [allF, ← H2.out, he]; simp), HB2.out⟩
/-- A text that is not empty: its first byte, and the rest. -/
theorem split_text (s : ByteArray) (h : s.toList.isEmpty = false) : ∃ (x : UInt8) (t : List UInt8), s.toList = x :: t ∧ 1 ≤ s.size ∧ s.toList.isEmpty = false ∧ (s.extract 1 s.size).toList = t ∧
    ∀ W, (Instr.index 9 (.string s) (.int .i64 0)).run Tryz.prog W = .ok (.int .u8 (x.toNat : Int)) W := by
  cases hl : s.toList with
  | nil => rw [hl] at h; cases h
  | cons x t =>
    have hsz : s.size = t.length + 1 := by rw [← list_len, hl]; rfl
    have h0 : 0 < s.size := by omega
    refine ⟨x, t, rfl, by omega, rfl, ?_, fun W => ?_⟩
    · rw [list_extract, hl, List.drop_one, List.tail_cons, List.take_of_length_le (by omega)]
    · have hx := list_at s 0 h0
      rw [hl] at hx
      simp only [List.getElem?_cons_zero, Option.some.injEq] at hx
      have := run_index_string (P := Tryz.prog) W 9 s .i64 0 Tryz.underlying9
      rw [dif_pos (by omega)] at this
      rw [this]
      simp [hx]
theorem sign_index (x : UInt8) : Lib.indexByte [45, 43] ((x.toNat : Int).toNat).toUInt8 = if x = 45 then 0 else if x = 43 then 1 else -1 := by
  have : ((x.toNat : Int).toNat).toUInt8 = x := by simp
  rw [this]
  by_cases h1 : x = 45
  · subst h1; rfl
  · by_cases h2 : x = 43
    · subst h2; rfl
    · simp [Lib.indexByte, h1, h2, show ¬ (45 : UInt8) = x from fun h => h1 h.symm, show ¬ (43 : UInt8) = x from fun h => h2 h.symm]
/-- IndexByte of the signs at a byte. -/
theorem signIx_at (W : World) (x : UInt8) (n : Int) (h : (if x = 45 then (0 : Int) else if x = 43 then 1 else -1) = n) : Calls Tryz.prog 77 #[.string ⟨#[45, 43]⟩, .int .u8 (x.toNat : Int)] W fun e w' => e = .returned (.int .i64 n) ∧ w' = W := by
  have := Tryz.strings_IndexByte ⟨#[45, 43]⟩ (x.toNat : Int) W
  rw [show (⟨#[45, 43]⟩ : ByteArray).data.toList = [45, 43] from rfl, sign_index, h] at this
  exact this
set_option maxHeartbeats 1000000 in
theorem unsigned_at {w W : World} (hb : Below w.heap.size w W) (s : ByteArray) : Calls Tryz.prog 100 #[.string s] W (StrP (unsF s.toList) w) := by
  have HB := Lib.hid hb
  clear hb
  cases he : s.toList.isEmpty with
  | true =>
    go_enter Tryz.func100, Tryz.ntmps100
    go_wp2_with fail
    go_ret
    exact ⟨s, by rw [List.isEmpty_iff.1 he]; rfl, rfl, HB.out⟩
  | false =>
    obtain ⟨x, t, hl, h1, -, hu, hix⟩ := split_text s he
    obtain ⟨u, hue⟩ : ∃ u, s.extract 1 s.size = u := ⟨_, rfl⟩
    rw [hue] at hu
    have HL := Lib.hid hl
    have HU := Lib.hid hu
    clear hl hu
    by_cases h45 : x = 45 ∨ x = 43
    · obtain ⟨n, hn, hn0⟩ : ∃ n : Int, (if x = 45 then (0 : Int) else if x = 43 then 1 else -1) = n ∧ 0 ≤ n := by
        rcases h45 with h | h
        · exact ⟨0, by rw [if_pos h], by omega⟩
        · exact ⟨1, by rw [h]; rfl, by omega⟩
      have HI := Lib.hid (signIx_at W x n hn)
      have H45 := Lib.hid h45
      clear hn h45
      go_enter Tryz.func100, Tryz.ntmps100
      go_wp2_with fail
      refine HI.out.mono ?_
      rintro e w' ⟨rfl, rfl⟩
      go_wp2_with fail
      go_ret
      exact ⟨u, by rw [HU.out, HL.out, unsF, if_pos H45.out], rfl, HB.out⟩
    · have HI := Lib.hid (signIx_at W x (-1) (by rw [if_neg (fun h => h45 (.inl h)), if_neg (fun h => h45 (.inr h))]))
      have H45 := Lib.hid h45
      clear h45
      go_enter Tryz.func100, Tryz.ntmps100
      go_wp2_with fail
      refine HI.out.mono ?_
      rintro e w' ⟨rfl, rfl⟩
      go_wp2_with fail
      go_ret
      exact ⟨s, by rw [HL.out, unsF, if_neg H45.out], rfl, HB.out⟩
theorem u8_ne (x : UInt8) (k : UInt8) : (((x.toNat : Int)) != ((k.toNat : Nat) : Int)) = !(x == k) := by
  by_cases h : x = k
  · subst h; simp
  · have : ¬ x.toNat = k.toNat := fun e => h (UInt8.toNat_inj.1 e)
    have h2 : ¬ ((x.toNat : Int)) = ((k.toNat : Nat) : Int) := by omega
    rw [beq_eq_false_iff_ne.2 h, Bool.not_false]
    exact bne_iff_ne.2 h2
set_option maxHeartbeats 1000000 in
theorem exp_at {w W : World} (hb : Below w.heap.size w W) (s : ByteArray) (b : Bool) (h : expF s.toList = b) : Calls Tryz.prog 104 #[.string s] W (BoolP b w) := by
  subst h
  have HB := Lib.hid hb
  clear hb
  cases he : s.toList.isEmpty with
  | true =>
    go_enter Tryz.func104, Tryz.ntmps104
    go_wp2_with fail
    go_ret
    exact ⟨ret_bool (by rw [List.isEmpty_iff.1 he]; rfl), HB.out⟩
  | false =>
    obtain ⟨x, t, hl, h1, -, hu, hix⟩ := split_text s he
    obtain ⟨u, hue⟩ : ∃ u, s.extract 1 s.size = u := ⟨_, rfl⟩
    rw [hue] at hu
    have HL := Lib.hid hl
    have HU := Lib.hid hu
    have e1 := u8_ne x 101
    have e2 := u8_ne x 69
    simp only [show (((101 : UInt8).toNat : Nat) : Int) = 101 from rfl] at e1
    simp only [show (((69 : UInt8).toNat : Nat) : Int) = 69 from rfl] at e2
    clear hl hu
    by_cases hx : x = 101 ∨ x = 69
    · have hx' : (x == 101 || x == 69) = true := by simpa using hx
      have HX := Lib.hid hx'
      rcases hx with hx | hx
      · rw [beq_iff_eq.2 hx] at e1
        rw [Bool.not_true] at e1
        clear e2 hx hx'
        go_enter Tryz.func104, Tryz.ntmps104
        go_wp2_with fail
        refine (unsigned_at HB.out u).mono ?_
        rintro e w' ⟨v, hv, rfl, hb2⟩
        have HV := Lib.hid hv
        have HB2 := Lib.hid hb2
        clear hv hb2
        go_wp2_with fail
        refine (allOf_at HB2.out v tenD _ (mk_list tenD) (by decide) (by decide) _ rfl).mono ?_
        rintro e w2 ⟨rfl, hb3⟩
        have HB3 := Lib.hid hb3
        clear hb3
        go_wp2_with fail
        go_ret
        exact ⟨ret_bool (by rw [HL.out, expF, HX.out, HV.out, HU.out]; simp), HB3.out⟩
      · have e1' : ((x.toNat : Int) != 101) = true := by rw [e1, hx]; rfl
        rw [beq_iff_eq.2 hx, Bool.not_true] at e2
        clear e1 hx hx'
        go_enter Tryz.func104, Tryz.ntmps104
        go_wp2_with fail
        refine (unsigned_at HB.out u).mono ?_
        rintro e w' ⟨v, hv, rfl, hb2⟩
        have HV := Lib.hid hv
        have HB2 := Lib.hid hb2
        clear hv hb2
        go_wp2_with fail
        refine (allOf_at HB2.out v tenD _ (mk_list tenD) (by decide) (by decide) _ rfl).mono ?_
        rintro e w2 ⟨rfl, hb3⟩
        have HB3 := Lib.hid hb3
        clear hb3
        go_wp2_with fail
        go_ret
        exact ⟨ret_bool (by rw [HL.out, expF, HX.out, HV.out, HU.out]; simp), HB3.out⟩
    · have hx' : (x == 101 || x == 69) = false := by simpa using hx
      have HX := Lib.hid hx'
      have e1' : ((x.toNat : Int) != 101) = true := by rw [e1, beq_eq_false_iff_ne.2 (fun h => hx (.inl h))]; rfl
      have e2' : ((x.toNat : Int) != 69) = true := by rw [e2, beq_eq_false_iff_ne.2 (fun h => hx (.inr h))]; rfl
      clear e1 e2 hx hx'
      go_enter Tryz.func104, Tryz.ntmps104
      go_wp2_with fail
      go_ret
      exact ⟨ret_bool (by rw [HL.out, expF, HX.out]; simp), HB.out⟩
/-- CutPrefix, its answers letters. -/
theorem cut_at {w W : World} (hb : Below w.heap.size w W) (s : ByteArray) (p : ByteArray) (pl : List UInt8) (hp : p.toList = pl) (b : Bool) (hB : Lib.hasPrefix s.toList pl = b) : Calls Tryz.prog 58 #[.string s, .string p] W fun e w' =>
    ∃ t : ByteArray, t.toList = Lib.trimPrefix s.toList pl ∧ e = .returned (.tuple #[.string t, .bool b]) ∧ Below w.heap.size w w' := by
  subst hp hB
  refine (Tryz.strings_CutPrefix s p W).mono ?_
  rintro e w' ⟨rfl, rfl⟩
  exact ⟨_, mk_list _, by rw [Lib.toList_data, Lib.toList_data]; rfl, hb⟩
theorem tpre_at {w W : World} (hb : Below w.heap.size w W) (s : ByteArray) (p : ByteArray) (pl : List UInt8) (hp : p.toList = pl) : Calls Tryz.prog 73 #[.string s, .string p] W (StrP (Lib.trimPrefix s.toList pl) w) := by
  subst hp
  refine (Tryz.strings_TrimPrefix s p W).mono ?_
  rintro e w' ⟨rfl, rfl⟩
  exact ⟨_, mk_list _, by rw [Lib.toList_data, Lib.toList_data]; rfl, hb⟩
set_option maxHeartbeats 1000000 in
theorem frac_at {w W : World} (hb : Below w.heap.size w W) (s : ByteArray) (hs : s.size ≤ 100000000) (b : Bool) (hB : fracB s.toList = b) : Calls Tryz.prog 103 #[.string s] W fun e w' =>
    ∃ t : ByteArray, t.toList = fracR s.toList ∧ e = .returned (.tuple #[.string t, .bool b]) ∧ Below w.heap.size w w' := by
  have HB := Lib.hid hb
  have HBB := Lib.hid hB
  clear hb hB
  go_enter Tryz.func103, Tryz.ntmps103
  go_wp2_with fail
  refine (trim_at HB.out s tenD _ (mk_list tenD) (by decide) (by decide)).mono ?_
  rintro e w1 ⟨u, hu, rfl, hb1⟩
  have HU := Lib.hid hu
  have HB1 := Lib.hid hb1
  clear hu hb1
  go_wp2_with fail
  refine (tpre_at HB1.out u _ [46] (mk_list [46])).mono ?_
  rintro e w2 ⟨v, hv, rfl, hb2⟩
  have HV := Lib.hid hv
  have HB2 := Lib.hid hb2
  clear hv hb2
  go_wp2_with fail
  refine (trim_at HB2.out v tenD _ (mk_list tenD) (by decide) (by decide)).mono ?_
  rintro e w3 ⟨r, hr, rfl, hb3⟩
  have HR := Lib.hid hr
  have HB3 := Lib.hid hb3
  clear hr hb3
  have hlu : u.size = (trmF tenD s.toList).length := by rw [← list_len, HU.out]
  have hlv : v.size = (ptF s.toList).length := by rw [← list_len, HV.out, HU.out]; rfl
  have hlr : r.size = (fracR s.toList).length := by rw [← list_len, HR.out, HV.out, HU.out]; rfl
  have hrl : r.toList = fracR s.toList := by rw [HR.out, HV.out, HU.out]; rfl
  have hus : u.size ≤ s.size := by rw [hlu, ← list_len]; exact trmF_len _ _
  have hvs : v.size ≤ u.size := by rw [← list_len, ← list_len, HV.out]; exact Lib.trimPrefix_le _ _
  have hrs : r.size ≤ v.size := by rw [← list_len, ← list_len, HR.out]; exact trmF_len _ _
  have HRL := Lib.hid hrl
  have HE : Hid ((decide (u.size < s.size) || decide (r.size < v.size)) = b) := by
    show _ = _
    rw [← HBB.out, fracB, ← hlu, ← hlv, ← hlr, list_len]
  clear hlu hlv hlr hrl HU HV HR
  by_cases hlt : u.size < s.size
  · have : b = true := by rw [← HE.out, decide_eq_true hlt]; rfl
    subst this
    go_wp2_with fail
    exact bodyPost_ret (v := .tuple #[.string r, .bool true]) (by simp [results, Tryz.results103, go_sem]) rfl ⟨r, HRL.out, rfl, HB3.out⟩
  · have hlt' : decide (u.size < s.size) = false := decide_eq_false hlt
    by_cases hlr : r.size < v.size
    · have : b = true := by rw [← HE.out, decide_eq_true hlr, Bool.or_true]
      subst this
      go_wp2_with fail
      exact bodyPost_ret (v := .tuple #[.string r, .bool true]) (by simp [results, Tryz.results103, go_sem]) rfl ⟨r, HRL.out, rfl, HB3.out⟩
    · have hlr' : decide (r.size < v.size) = false := decide_eq_false hlr
      have : b = false := by rw [← HE.out, hlt', hlr']; rfl
      subst this
      go_wp2_with fail
      exact bodyPost_ret (v := .tuple #[.string r, .bool false]) (by simp [results, Tryz.results103, go_sem]) rfl ⟨r, HRL.out, rfl, HB3.out⟩
set_option maxHeartbeats 1000000 in
theorem int_at {w W : World} (hb : Below w.heap.size w W) (s : ByteArray) (b : Bool) (h : intF s.toList = b) : Calls Tryz.prog 89 #[.string s] W (BoolP b w) := by
  have HB := Lib.hid hb
  have HH := Lib.hid h
  clear hb h
  cases h1 : Lib.hasPrefix s.toList [48, 111] with
  | true =>
    have HE : Hid (allF octD (Lib.trimPrefix s.toList [48, 111]) = b) := by show _ = _; rw [← HH.out, intF, if_pos h1]
    have HP := Lib.hid h1
    clear HH h1
    go_enter Tryz.func89, Tryz.ntmps89
    go_wp2_with fail
    refine (cut_at HB.out s _ [48, 111] (mk_list [48, 111]) _ HP.out).mono ?_
    rintro e w1 ⟨t, ht, rfl, hb1⟩
    have HB1 := Lib.hid hb1
    have HT := Lib.hid ht
    clear hb1 ht
    go_wp2_with fail
    refine (allOf_at HB1.out t octD _ (mk_list octD) (by decide) (by decide) b (by rw [HT.out]; exact HE.out)).mono ?_
    rintro e w2 ⟨rfl, hb2⟩
    have HB2 := Lib.hid hb2
    clear hb2
    go_wp2_with fail
    go_ret
    exact ⟨rfl, HB2.out⟩
  | false =>
    have HP := Lib.hid h1
    cases h2 : Lib.hasPrefix s.toList [48, 120] with
    | true =>
      have HE : Hid (allF hexU (Lib.trimPrefix s.toList [48, 120]) = b) := by show _ = _; rw [← HH.out, intF, if_neg (by simp [h1]), if_pos h2]
      have HQ := Lib.hid h2
      clear HH h1 h2
      go_enter Tryz.func89, Tryz.ntmps89
      go_wp2_with fail
      refine (cut_at HB.out s _ [48, 111] (mk_list [48, 111]) _ HP.out).mono ?_
      rintro e w1 ⟨t, ht, rfl, hb1⟩
      have HB1 := Lib.hid hb1
      clear hb1 ht
      go_wp2_with fail
      refine (cut_at HB1.out s _ [48, 120] (mk_list [48, 120]) _ HQ.out).mono ?_
      rintro e w2 ⟨u, hu, rfl, hb2⟩
      have HB2 := Lib.hid hb2
      have HU := Lib.hid hu
      clear hb2 hu
      go_wp2_with fail
      refine (allOf_at HB2.out u hexU _ (mk_list hexU) (by decide) (by decide) b (by rw [HU.out]; exact HE.out)).mono ?_
      rintro e w3 ⟨rfl, hb3⟩
      have HB3 := Lib.hid hb3
      clear hb3
      go_wp2_with fail
      go_ret
      exact ⟨rfl, HB3.out⟩
    | false =>
      have HE : Hid (allF tenD (unsF s.toList) = b) := by show _ = _; rw [← HH.out, intF, if_neg (by simp [h1]), if_neg (by simp [h2])]
      have HQ := Lib.hid h2
      clear HH h1 h2
      go_enter Tryz.func89, Tryz.ntmps89
      go_wp2_with fail
      refine (cut_at HB.out s _ [48, 111] (mk_list [48, 111]) _ HP.out).mono ?_
      rintro e w1 ⟨t, ht, rfl, hb1⟩
      have HB1 := Lib.hid hb1
      clear hb1 ht
      go_wp2_with fail
      refine (cut_at HB1.out s _ [48, 120] (mk_list [48, 120]) _ HQ.out).mono ?_
      rintro e w2 ⟨u, hu, rfl, hb2⟩
      have HB2 := Lib.hid hb2
      clear hb2 hu
      go_wp2_with fail
      refine (unsigned_at HB2.out s).mono ?_
      rintro e w3 ⟨v, hv, rfl, hb3⟩
      have HB3 := Lib.hid hb3
      have HV := Lib.hid hv
      clear hb3 hv
      go_wp2_with fail
      refine (allOf_at HB3.out v tenD _ (mk_list tenD) (by decide) (by decide) b (by rw [HV.out]; exact HE.out)).mono ?_
      rintro e w4 ⟨rfl, hb4⟩
      have HB4 := Lib.hid hb4
      clear hb4
      go_wp2_with fail
      go_ret
      exact ⟨rfl, HB4.out⟩
theorem unsF_len (l : List UInt8) : (unsF l).length ≤ l.length := by
  cases l with
  | nil => exact Nat.le_refl _
  | cons c t => rw [unsF]; split <;> simp
set_option maxHeartbeats 1000000 in
theorem flo_at {w W : World} (hb : Below w.heap.size w W) (s : ByteArray) (hs : s.size ≤ 100000000) (b : Bool) (h : floF s.toList = b) : Calls Tryz.prog 90 #[.string s] W (BoolP b w) := by
  have HB := Lib.hid hb
  have HH := Lib.hid h
  clear hb h
  cases h1 : nanF s.toList with
  | true =>
    have : b = true := by rw [← HH.out, floF, h1]; rfl
    subst this
    have H1 := Lib.hid h1
    clear h1 HH
    go_enter Tryz.func90, Tryz.ntmps90
    go_wp2_with fail
    refine (nan_at HB.out s _ H1.out).mono ?_
    rintro e w1 ⟨rfl, hb1⟩
    have HB1 := Lib.hid hb1
    clear hb1
    go_wp2_with fail
    go_ret
    exact ⟨rfl, HB1.out⟩
  | false =>
    have H1 := Lib.hid h1
    have HH2 : Hid ((infF (unsF s.toList) || (fracB (unsF s.toList) && ((fracR (unsF s.toList)).isEmpty || expF (fracR (unsF s.toList))))) = b) := by
      show _ = _; rw [← HH.out, floF, h1, Bool.false_or]
    clear HH h1
    have hul := unsF_len s.toList
    rw [list_len] at hul
    obtain ⟨l, hl⟩ : ∃ l, unsF s.toList = l := ⟨_, rfl⟩
    rw [hl] at HH2 hul
    have HL := Lib.hid hl
    clear hl
    go_enter Tryz.func90, Tryz.ntmps90
    go_wp2_with fail
    refine (nan_at HB.out s _ H1.out).mono ?_
    rintro e w1 ⟨rfl, hb1⟩
    have HB1 := Lib.hid hb1
    clear hb1
    go_wp2_with fail
    refine (unsigned_at HB1.out s).mono ?_
    rintro e w2 ⟨t, ht, rfl, hb2⟩
    have HB2 := Lib.hid hb2
    have HT : Hid (t.toList = l) := ht.trans HL.out
    have hts : t.size ≤ 100000000 := by rw [← list_len, HT.out]; omega
    clear hb2 ht
    cases h2 : infF l with
    | true =>
      have : b = true := by rw [← HH2.out, h2]; rfl
      subst this
      have H2 := Lib.hid h2
      clear h2 HH2
      go_wp2_with fail
      refine (inf_at HB2.out t true (by rw [HT.out]; exact H2.out)).mono ?_
      rintro e w3 ⟨rfl, hb3⟩
      have HB3 := Lib.hid hb3
      clear hb3
      go_wp2_with fail
      go_ret
      exact ⟨rfl, HB3.out⟩
    | false =>
      have H2 := Lib.hid h2
      have HH3 : Hid ((fracB l && ((fracR l).isEmpty || expF (fracR l))) = b) := by show _ = _; rw [← HH2.out, h2, Bool.false_or]
      clear h2 HH2
      go_wp2_with fail
      refine (inf_at HB2.out t false (by rw [HT.out]; exact H2.out)).mono ?_
      rintro e w3 ⟨rfl, hb3⟩
      have HB3 := Lib.hid hb3
      clear hb3
      cases h3 : fracB l with
      | false =>
        have : b = false := by rw [← HH3.out, h3]; rfl
        subst this
        have H3 := Lib.hid h3
        clear h3 HH3
        go_wp2_with fail
        refine (frac_at HB3.out t hts false (by rw [HT.out]; exact H3.out)).mono ?_
        rintro e w4 ⟨r, hr, rfl, hb4⟩
        have HB4 := Lib.hid hb4
        clear hb4 hr
        go_wp2_with fail
        go_ret
        exact ⟨rfl, HB4.out⟩
      | true =>
        have H3 := Lib.hid h3
        have HH4 : Hid (((fracR l).isEmpty || expF (fracR l)) = b) := by show _ = _; rw [← HH3.out, h3, Bool.true_and]
        clear h3 HH3
        go_wp2_with fail
        refine (frac_at HB3.out t hts true (by rw [HT.out]; exact H3.out)).mono ?_
        rintro e w4 ⟨r, hr, rfl, hb4⟩
        have HB4 := Lib.hid hb4
        have HR : Hid (r.toList = fracR l) := by show _ = _; rw [hr, HT.out]
        clear hb4 hr
        cases h4 : r.toList.isEmpty with
        | true =>
          have : b = true := by rw [← HH4.out, ← HR.out, h4]; rfl
          subst this
          go_wp2_with fail
          go_ret
          exact ⟨rfl, HB4.out⟩
        | false =>
          have HE : Hid (expF r.toList = b) := by show _ = _; rw [← HH4.out, ← HR.out, h4, Bool.false_or]
          go_wp2_with fail
          refine (exp_at HB4.out r b HE.out).mono ?_
          rintro e w5 ⟨rfl, hb5⟩
          have HB5 := Lib.hid hb5
          clear hb5
          go_wp2_with fail
          go_ret
          exact ⟨rfl, HB5.out⟩
/-- Resolve, its answer a text. -/
def TxtP (r : ByteArray) (w : World) (e : Ending) (w' : World) : Prop := e = .returned (.string r) ∧ Below w.heap.size w w'
set_option maxHeartbeats 1000000 in
theorem res_at {w W : World} (hb : Below w.heap.size w W) (s : ByteArray) (hs : s.size ≤ 100000000) (r : ByteArray) (h : resF s.toList = r.toList) : Calls Tryz.prog 70 #[.string s] W (TxtP r w) := by
  have HB := Lib.hid hb
  have HH := Lib.hid h
  clear hb h
  cases h1 : nullF s.toList with
  | true =>
    obtain rfl : r = mk [33, 33, 110, 117, 108, 108] := list_inj (by rw [← HH.out, resF, if_pos h1, mk_list])
    have H1 := Lib.hid h1
    clear h1 HH
    go_enter Tryz.func70, Tryz.ntmps70
    go_wp2_with fail
    refine (null_at HB.out s _ H1.out).mono ?_
    rintro e w1 ⟨rfl, hb1⟩
    have HB1 := Lib.hid hb1
    clear hb1
    go_wp2_with fail
    go_ret
    exact ⟨rfl, HB1.out⟩
  | false =>
    have H1 := Lib.hid h1
    cases h2 : boolF s.toList with
    | true =>
      obtain rfl : r = mk [33, 33, 98, 111, 111, 108] := list_inj (by rw [← HH.out, resF, h1, if_neg (by simp), if_pos h2, mk_list])
      have H2 := Lib.hid h2
      clear h1 h2 HH
      go_enter Tryz.func70, Tryz.ntmps70
      go_wp2_with fail
      refine (null_at HB.out s _ H1.out).mono ?_
      rintro e w1 ⟨rfl, hb1⟩
      have HB1 := Lib.hid hb1
      clear hb1
      go_wp2_with fail
      refine (bool_at HB1.out s _ H2.out).mono ?_
      rintro e w2 ⟨rfl, hb2⟩
      have HB2 := Lib.hid hb2
      clear hb2
      go_wp2_with fail
      go_ret
      exact ⟨rfl, HB2.out⟩
    | false =>
      have H2 := Lib.hid h2
      cases h3 : intF s.toList with
      | true =>
        obtain rfl : r = mk [33, 33, 105, 110, 116] := list_inj (by rw [← HH.out, resF, h1, if_neg (by simp), h2, if_neg (by simp), if_pos h3, mk_list])
        have H3 := Lib.hid h3
        clear h1 h2 h3 HH
        go_enter Tryz.func70, Tryz.ntmps70
        go_wp2_with fail
        refine (null_at HB.out s _ H1.out).mono ?_
        rintro e w1 ⟨rfl, hb1⟩
        have HB1 := Lib.hid hb1
        clear hb1
        go_wp2_with fail
        refine (bool_at HB1.out s _ H2.out).mono ?_
        rintro e w2 ⟨rfl, hb2⟩
        have HB2 := Lib.hid hb2
        clear hb2
        go_wp2_with fail
        refine (int_at HB2.out s _ H3.out).mono ?_
        rintro e w3 ⟨rfl, hb3⟩
        have HB3 := Lib.hid hb3
        clear hb3
        go_wp2_with fail
        go_ret
        exact ⟨rfl, HB3.out⟩
      | false =>
        have H3 := Lib.hid h3
        cases h4 : floF s.toList with
        | true =>
          obtain rfl : r = mk [33, 33, 102, 108, 111, 97, 116] := list_inj (by rw [← HH.out, resF, h1, if_neg (by simp), h2, if_neg (by simp), h3, if_neg (by simp), if_pos h4, mk_list])
          have H4 := Lib.hid h4
          clear h1 h2 h3 h4 HH
          go_enter Tryz.func70, Tryz.ntmps70
          go_wp2_with fail
          refine (null_at HB.out s _ H1.out).mono ?_
          rintro e w1 ⟨rfl, hb1⟩
          have HB1 := Lib.hid hb1
          clear hb1
          go_wp2_with fail
          refine (bool_at HB1.out s _ H2.out).mono ?_
          rintro e w2 ⟨rfl, hb2⟩
          have HB2 := Lib.hid hb2
          clear hb2
          go_wp2_with fail
          refine (int_at HB2.out s _ H3.out).mono ?_
          rintro e w3 ⟨rfl, hb3⟩
          have HB3 := Lib.hid hb3
          clear hb3
          go_wp2_with fail
          refine (flo_at HB3.out s hs _ H4.out).mono ?_
          rintro e w4 ⟨rfl, hb4⟩
          have HB4 := Lib.hid hb4
          clear hb4
          go_wp2_with fail
          go_ret
          exact ⟨rfl, HB4.out⟩
        | false =>
          obtain rfl : r = mk [33, 33, 115, 116, 114] := list_inj (by rw [← HH.out, resF, h1, if_neg (by simp), h2, if_neg (by simp), h3, if_neg (by simp), h4, if_neg (by simp), mk_list])
          have H4 := Lib.hid h4
          clear h1 h2 h3 h4 HH
          go_enter Tryz.func70, Tryz.ntmps70
          go_wp2_with fail
          refine (null_at HB.out s _ H1.out).mono ?_
          rintro e w1 ⟨rfl, hb1⟩
          have HB1 := Lib.hid hb1
          clear hb1
          go_wp2_with fail
          refine (bool_at HB1.out s _ H2.out).mono ?_
          rintro e w2 ⟨rfl, hb2⟩
          have HB2 := Lib.hid hb2
          clear hb2
          go_wp2_with fail
          refine (int_at HB2.out s _ H3.out).mono ?_
          rintro e w3 ⟨rfl, hb3⟩
          have HB3 := Lib.hid hb3
          clear hb3
          go_wp2_with fail
          refine (flo_at HB3.out s hs _ H4.out).mono ?_
          rintro e w4 ⟨rfl, hb4⟩
          have HB4 := Lib.hid hb4
          clear hb4
          go_wp2_with fail
          go_ret
          exact ⟨rfl, HB4.out⟩
end Go.Proofs.YtnecapmnbaemiaaGreatDoor
