/- What a plain scalar is, as plain functions on lists of bytes: nullF, boolF, intF, floF, resF. No function of the program. · Package schema's own functions that stand on few others: Null, Bool, notNumber, infinite, allOf, unsigned, exponent, behindFraction. · Package schema's unsigned, exponent, behindFraction, Int, Float, Resolve. · Package schema's Int, Float, Resolve; the document's example. · The document's one, sign, digits, Null, Bool, Int. · The document's digits. · The document's Int; what Float comes to, by counts of digits. · The document's Float and Resolve. -/
import Derived.Test.YtcddlconcngjlaaQA
import Derived.Lib.SlTrimSet
import Derived.Test.YtcddlconcngjlaaShelf
import Derived.Deep.DeepCutAuto
set_option linter.unusedSimpArgs false
set_option linter.unusedVariables false
namespace Go.Proofs.Ytcddlconcngjlaa
set_option linter.unusedVariables false
set_option maxRecDepth 100000
def octD : List UInt8 := [48, 49, 50, 51, 52, 53, 54, 55]
def tenD : List UInt8 := [48, 49, 50, 51, 52, 53, 54, 55, 56, 57]
def hexU : List UInt8 := [48, 49, 50, 51, 52, 53, 54, 55, 56, 57, 97, 98, 99, 100, 101, 102, 65, 66, 67, 68, 69, 70]
def nullF (l : List UInt8) : Bool := l.isEmpty || l == [126] || l == [110, 117, 108, 108] || l == [78, 117, 108, 108] || l == [78, 85, 76, 76]
def boolF (l : List UInt8) : Bool := l == [116, 114, 117, 101] || l == [84, 114, 117, 101] || l == [84, 82, 85, 69] || l == [102, 97, 108, 115, 101] || l == [70, 97, 108, 115, 101] || l == [70, 65, 76, 83, 69]
def nanF (l : List UInt8) : Bool := l == [46, 110, 97, 110] || l == [46, 78, 97, 78] || l == [46, 78, 65, 78]
def infF (l : List UInt8) : Bool := l == [46, 105, 110, 102] || l == [46, 73, 110, 102] || l == [46, 73, 78, 70]
def trmF (cs l : List UInt8) : List UInt8 := l.dropWhile (cs.contains ·)
def allF (cs l : List UInt8) : Bool := !l.isEmpty && (trmF cs l).isEmpty
def unsF : List UInt8 → List UInt8
  | [] => []
  | c :: t => if c = 45 ∨ c = 43 then t else c :: t
def intF (l : List UInt8) : Bool :=
  if Lib.hasPrefix l [48, 111] then allF octD (Lib.trimPrefix l [48, 111]) else if Lib.hasPrefix l [48, 120] then allF hexU (Lib.trimPrefix l [48, 120]) else allF tenD (unsF l)
def ptF (l : List UInt8) : List UInt8 := Lib.trimPrefix (trmF tenD l) [46]
def fracR (l : List UInt8) : List UInt8 := trmF tenD (ptF l)
def fracB (l : List UInt8) : Bool := decide ((trmF tenD l).length < l.length) || decide ((fracR l).length < (ptF l).length)
def expF : List UInt8 → Bool
  | [] => false
  | c :: t => (c == 101 || c == 69) && allF tenD (unsF t)
def floF (l : List UInt8) : Bool := nanF l || infF (unsF l) || (fracB (unsF l) && ((fracR (unsF l)).isEmpty || expF (fracR (unsF l))))
def resF (l : List UInt8) : List UInt8 :=
  if nullF l then [33, 33, 110, 117, 108, 108] else if boolF l then [33, 33, 98, 111, 111, 108] else if intF l then [33, 33, 105, 110, 116] else if floF l then [33, 33, 102, 108, 111, 97, 116] else [33, 33, 115, 116, 114]
def mk (l : List UInt8) : ByteArray := ⟨l.toArray⟩
theorem mk_list (l : List UInt8) : (mk l).toList = l := by rw [Lib.toList_data]; rfl
theorem list_inj {s t : ByteArray} (h : s.toList = t.toList) : s = t := by
  rw [Lib.toList_data, Lib.toList_data] at h
  exact ByteArray.ext (Array.toList_inj.1 h)
theorem list_len (s : ByteArray) : s.toList.length = s.size := by rw [Lib.toList_data]; simp
theorem list_extract (s : ByteArray) (a b : Nat) : (s.extract a b).toList = (s.toList.drop a).take (b - a) := by
  rw [Lib.toList_data, Lib.toList_data, Lib.extract_data]
theorem list_at (s : ByteArray) (k : Nat) (h : k < s.size) : s.toList[k]? = some s[k] := by
  rw [Lib.toList_data, Array.getElem?_toList, Array.getElem?_eq_getElem (by simpa using h)]; rfl
theorem trmF_take (cs l : List UInt8) : l.takeWhile (cs.contains ·) ++ trmF cs l = l := List.takeWhile_append_dropWhile
theorem trmF_cons (cs : List UInt8) (c : UInt8) (t : List UInt8) : trmF cs (c :: t) = if cs.contains c then trmF cs t else c :: t := by
  unfold trmF; rw [List.dropWhile_cons]
theorem allF_all (cs l : List UInt8) : allF cs l = (!l.isEmpty && l.all (cs.contains ·)) := by
  unfold allF
  congr 1
  induction l with
  | nil => rfl
  | cons c t ih =>
    rw [trmF_cons, List.all_cons]
    cases h : cs.contains c with
    | true => simp [ih]
    | false => simp
open Go.RowKit
def BoolP (b : Bool) (w : World) (e : Ending) (w' : World) : Prop := e = .returned (.bool b) ∧ Below w.heap.size w w'
def StrP (l : List UInt8) (w : World) (e : Ending) (w' : World) : Prop := ∃ t : ByteArray, t.toList = l ∧ e = .returned (.string t) ∧ Below w.heap.size w w'
/-- A text that is not empty: its first byte, and the rest. -/
theorem split_text (s : ByteArray) (h : s.toList.isEmpty = false) : ∃ (x : UInt8) (t : List UInt8), s.toList = x :: t ∧ 1 ≤ s.size ∧ s.toList.isEmpty = false ∧ (s.extract 1 s.size).toList = t ∧
    ∀ W, (Instr.index 9 (.string s) (.int .i64 0)).run Try.prog W = .ok (.int .u8 (x.toNat : Int)) W := by
  cases hl : s.toList with
  | nil => rw [hl] at h; cases h
  | cons x t =>
    have hsz : s.size = t.length + 1 := by rw [← list_len, hl]; rfl
    have h0 : 0 < s.size := by omega
    refine ⟨x, t, rfl, by omega, rfl, ?_, fun W => ?_⟩
    · rw [list_extract, hl, List.drop_one, List.tail_cons, List.take_of_length_le (by omega)]
    · have hx := list_at s 0 h0
      rw [hl] at hx
      simp only [List.getElem?_cons_zero, Option.some.injEq] at hx
      have := run_index_string (P := Try.prog) W 9 s .i64 0 Try.underlying9
      rw [dif_pos (by omega)] at this
      rw [this]
      simp [hx]
theorem u8_ne (x : UInt8) (k : UInt8) : (((x.toNat : Int)) != ((k.toNat : Nat) : Int)) = !(x == k) := by
  by_cases h : x = k
  · subst h; simp
  · have : ¬ x.toNat = k.toNat := fun e => h (UInt8.toNat_inj.1 e)
    have h2 : ¬ ((x.toNat : Int)) = ((k.toNat : Nat) : Int) := by omega
    rw [beq_eq_false_iff_ne.2 h, Bool.not_false]
    exact bne_iff_ne.2 h2
theorem unsF_len (l : List UInt8) : (unsF l).length ≤ l.length := by
  cases l with
  | nil => exact Nat.le_refl _
  | cons c t => rw [unsF]; split <;> simp
/-- Resolve, its answer a text. -/
def TxtP (r : ByteArray) (w : World) (e : Ending) (w' : World) : Prop := e = .returned (.string r) ∧ Below w.heap.size w w'
def oneF (ls : List ByteArray) (l : List UInt8) : Bool := ls.any fun s => s.toList == l
theorem any_take (f : ByteArray → Bool) (ls : List ByteArray) (k : Nat) (s : ByteArray) (h : ls[k]? = some s) : (ls.take (k + 1)).any f = ((ls.take k).any f || f s) := by
  rw [List.take_add_one, h, List.any_append]
  simp
set_option maxHeartbeats 1000000 in
theorem one_at {w W : World} (hb : Below w.heap.size w W) (s : ByteArray) (ls : List ByteArray) (b n c : Nat) (hn : ls.length = n) (hc : n ≤ c) (hcm : c ≤ 1000000) (hcell : ∀ k v, ls[k]? = some v → W.cell? ⟨b, k, none⟩ = some (.string v)) (r : Bool) (hr : oneF ls s.toList = r) :
    Calls Try.prog 114 #[.string s, .slice (some ⟨b, 0, none⟩) n c] W (BoolP r w) := by
  have HB := Lib.hid hb
  have HC := Lib.hid hcell
  have HR := Lib.hid hr
  have HN := Lib.hid hn
  clear hb hcell hr hn
  go_enter Try.func114, Try.ntmps114
  go_wp2_with fail
  go_loopw [4, 8] (fun u v V => ∃ k : Nat, k ≤ n ∧ V = W ∧ u = .bool false ∧ v = .int .i64 (k : Int) ∧ Hid ((ls.take k).any (fun x => x.toList == s.toList) = false)) (fun _ v _ => n - (intOf v).toNat)
  case atStart => exact ⟨0, by omega, rfl, rfl, rfl, by show _ = _; simp⟩
  case round =>
    obtain ⟨k, hk, rfl, rfl, rfl, HA⟩ := hrel
    by_cases hlt : k < n
    · have hkl : k < ls.length := by rw [HN.out]; exact hlt
      obtain ⟨x, hx⟩ : ∃ x, ls[k]? = some x := ⟨_, List.getElem?_eq_getElem hkl⟩
      have hcl := HC.out k x hx
      have hst := any_take (fun x => x.toList == s.toList) ls k x hx
      have d : (k : Int) < (n : Int) := by omega
      cases he : (x.toList == s.toList) with
      | true =>
        have : r = true := by
          rw [← HR.out, oneF, List.any_eq_true]
          exact ⟨x, List.mem_of_getElem? hx, he⟩
        subst this
        clear hst hx HR
        go_wp2_with fail
        go_ret
        exact ⟨rfl, HB.out⟩
      | false =>
        have HA2 : Hid ((ls.take (k + 1)).any (fun x => x.toList == s.toList) = false) := by
          show _ = _; rw [hst, HA.out, he]; rfl
        clear hst hx
        go_wp2_with fail
        go_roundw
        case rel => exact ⟨k + 1, by omega, by trivial, by trivial, by go_num, HA2⟩
        case measure => simp [intOf]; omega
    · obtain rfl : k = n := by omega
      have : r = false := by rw [← HR.out, oneF, ← HA.out, List.take_of_length_le (by rw [HN.out]; omega)]
      subst this
      have d : decide ((k : Int) < (k : Int)) = false := decide_eq_false (by omega)
      clear HR
      go_wp2_with fail
      go_ret
      exact ⟨rfl, HB.out⟩
def ncs (ls : List ByteArray) : Array Value := (ls.map Value.string).toArray
theorem ncs_new (W : World) (ls : List ByteArray) (T : TypeId) : ∀ k v, ls[k]? = some v → (W.alloc (.cells (ncs ls) T)).cell? ⟨W.heap.size, k, none⟩ = some (.string v) := by
  intro k v h
  rw [World.cell?_alloc_mark]
  simp [ncs, h]
def nullL : List ByteArray := [⟨#[110, 117, 108, 108]⟩, ⟨#[78, 117, 108, 108]⟩, ⟨#[78, 85, 76, 76]⟩, ⟨#[126]⟩, ⟨#[]⟩]
def boolL : List ByteArray := [⟨#[116, 114, 117, 101]⟩, ⟨#[84, 114, 117, 101]⟩, ⟨#[84, 82, 85, 69]⟩, ⟨#[102, 97, 108, 115, 101]⟩, ⟨#[70, 97, 108, 115, 101]⟩, ⟨#[70, 65, 76, 83, 69]⟩]
def nanL : List ByteArray := [⟨#[46, 110, 97, 110]⟩, ⟨#[46, 78, 97, 78]⟩, ⟨#[46, 78, 65, 78]⟩]
def infL : List ByteArray := [⟨#[46, 105, 110, 102]⟩, ⟨#[46, 73, 110, 102]⟩, ⟨#[46, 73, 78, 70]⟩]
theorem beq_turn (a b : List UInt8) : (a == b) = (b == a) := by
  by_cases h : a = b
  · subst h; rfl
  · rw [beq_eq_false_iff_ne.2 h, beq_eq_false_iff_ne.2 (fun e => h e.symm)]
theorem empty_beq (l : List UInt8) : (l == []) = l.isEmpty := by cases l <;> rfl
theorem null_one (l : List UInt8) : oneF nullL l = nullF l := by
  simp only [oneF, nullL, List.any_cons, List.any_nil, Bool.or_false, Lib.toList_data, nullF, beq_turn _ l, empty_beq]
  cases l.isEmpty <;> simp [Bool.or_comm, Bool.or_left_comm]
theorem bool_one (l : List UInt8) : oneF boolL l = boolF l := by
  simp only [oneF, boolL, List.any_cons, List.any_nil, Bool.or_false, Lib.toList_data, boolF, beq_turn _ l, Bool.or_assoc]
theorem nan_one (l : List UInt8) : oneF nanL l = nanF l := by
  simp only [oneF, nanL, List.any_cons, List.any_nil, Bool.or_false, Lib.toList_data, nanF, beq_turn _ l, Bool.or_assoc]
theorem inf_one (l : List UInt8) : oneF infL l = infF l := by
  simp only [oneF, infL, List.any_cons, List.any_nil, Bool.or_false, Lib.toList_data, infF, beq_turn _ l, Bool.or_assoc]
set_option maxHeartbeats 1000000 in
theorem rnull_at {w W : World} (hb : Below w.heap.size w W) (s : ByteArray) (r : Bool) (hr : nullF s.toList = r) : Calls Try.prog 110 #[.string s] W (BoolP r w) := by
  have HB := Lib.hid hb
  have HR := Lib.hid hr
  have HB1 : Hid (Below w.heap.size w (W.alloc (.cells (ncs nullL) 9))) := hb.alloc hb.size _
  have HC := Lib.hid (ncs_new W nullL 9)
  clear hb hr
  go_enter Try.func110, Try.ntmps110
  go_wp2_with fail
  refine (one_at HB1.out s nullL W.heap.size 5 5 rfl (by omega) (by omega) HC.out r (by rw [null_one]; exact HR.out)).mono ?_
  rintro e w1 ⟨rfl, hb1⟩
  have HB2 := Lib.hid hb1
  clear hb1
  go_wp2_with fail
  go_ret
  exact ⟨rfl, HB2.out⟩
set_option maxHeartbeats 1000000 in
theorem rbool_at {w W : World} (hb : Below w.heap.size w W) (s : ByteArray) (r : Bool) (hr : boolF s.toList = r) : Calls Try.prog 111 #[.string s] W (BoolP r w) := by
  have HB := Lib.hid hb
  have HR := Lib.hid hr
  have HB1 : Hid (Below w.heap.size w (W.alloc (.cells (ncs boolL) 9))) := hb.alloc hb.size _
  have HC := Lib.hid (ncs_new W boolL 9)
  clear hb hr
  go_enter Try.func111, Try.ntmps111
  go_wp2_with fail
  refine (one_at HB1.out s boolL W.heap.size 6 6 rfl (by omega) (by omega) HC.out r (by rw [bool_one]; exact HR.out)).mono ?_
  rintro e w1 ⟨rfl, hb1⟩
  have HB2 := Lib.hid hb1
  clear hb1
  go_wp2_with fail
  go_ret
  exact ⟨rfl, HB2.out⟩
theorem u8_eq (x : UInt8) (k : UInt8) : (((x.toNat : Int)) == ((k.toNat : Nat) : Int)) = (x == k) := by
  have := u8_ne x k
  rw [bne] at this
  exact Bool.not_inj this
set_option maxHeartbeats 1000000 in
theorem rsign_at {w W : World} (hb : Below w.heap.size w W) (s : ByteArray) : Calls Try.prog 115 #[.string s] W (StrP (unsF s.toList) w) := by
  have HB := Lib.hid hb
  clear hb
  cases he : s.toList.isEmpty with
  | true =>
    go_enter Try.func115, Try.ntmps115
    go_wp2_with fail
    go_ret
    exact ⟨s, by rw [List.isEmpty_iff.1 he]; rfl, rfl, HB.out⟩
  | false =>
    obtain ⟨x, t, hl, h1, -, hu, hix⟩ := split_text s he
    obtain ⟨u, hue⟩ : ∃ u, s.extract 1 s.size = u := ⟨_, rfl⟩
    rw [hue] at hu
    have HL := Lib.hid hl
    have HU := Lib.hid hu
    have e1 := u8_eq x 45
    have e2 := u8_eq x 43
    simp only [show (((45 : UInt8).toNat : Nat) : Int) = 45 from rfl] at e1
    simp only [show (((43 : UInt8).toNat : Nat) : Int) = 43 from rfl] at e2
    clear hl hu
    by_cases h1' : x = 45
    · have H1 := Lib.hid h1'
      have e1' : ((x.toNat : Int) == 45) = true := by rw [e1]; exact beq_iff_eq.2 h1'
      clear e1 e2 h1'
      go_enter Try.func115, Try.ntmps115
      go_wp2_with fail
      go_ret
      exact ⟨u, by rw [HU.out, HL.out, unsF, if_pos (.inl H1.out)], rfl, HB.out⟩
    · have H1 := Lib.hid h1'
      have e1' : ((x.toNat : Int) == 45) = false := by rw [e1]; exact beq_eq_false_iff_ne.2 h1'
      clear e1 h1'
      by_cases h2' : x = 43
      · have H2 := Lib.hid h2'
        have e2' : ((x.toNat : Int) == 43) = true := by rw [e2]; exact beq_iff_eq.2 h2'
        clear e2 h2'
        go_enter Try.func115, Try.ntmps115
        go_wp2_with fail
        go_ret
        exact ⟨u, by rw [HU.out, HL.out, unsF, if_pos (.inr H2.out)], rfl, HB.out⟩
      · have H2 := Lib.hid h2'
        have e2' : ((x.toNat : Int) == 43) = false := by rw [e2]; exact beq_eq_false_iff_ne.2 h2'
        clear e2 h2'
        go_enter Try.func115, Try.ntmps115
        go_wp2_with fail
        go_ret
        exact ⟨s, by rw [HL.out, unsF, if_neg (by intro h; rcases h with h | h; exact H1.out h; exact H2.out h)], rfl, HB.out⟩
/-- How many bytes at a text's beginning are in a set. -/
def digN (cs l : List UInt8) : Nat := (l.takeWhile (cs.contains ·)).length
theorem digN_drop (cs l : List UInt8) : l.drop (digN cs l) = trmF cs l := by
  have h := trmF_take cs l
  have : (l.takeWhile (cs.contains ·) ++ trmF cs l).drop (digN cs l) = trmF cs l := by rw [digN, List.drop_left]
  rwa [h] at this
theorem digN_le (cs l : List UInt8) : digN cs l + (trmF cs l).length = l.length := by
  have := congrArg List.length (trmF_take cs l)
  rwa [List.length_append] at this
theorem digN_stop (cs l : List UInt8) (k : Nat) (h1 : (l.take k).all (cs.contains ·) = true) (hk : k ≤ l.length) (h2 : ∀ x, l[k]? = some x → cs.contains x = false) : digN cs l = k := by
  induction k generalizing l with
  | zero =>
    cases l with
    | nil => rfl
    | cons c t => have := h2 c rfl; simp only [digN, List.takeWhile_cons, this]; rfl
  | succ k ih =>
    cases l with
    | nil => simp at hk
    | cons c t =>
      rw [List.take_succ_cons, List.all_cons, Bool.and_eq_true] at h1
      have := ih t h1.2 (by simpa using hk) (fun x hx => h2 x (by simpa using hx))
      unfold digN at this ⊢
      rw [List.takeWhile_cons, if_pos h1.1, List.length_cons, this]
theorem all_step (cs l : List UInt8) (k : Nat) (x : UInt8) (hx : l[k]? = some x) (h1 : (l.take k).all (cs.contains ·) = true) (h2 : cs.contains x = true) : (l.take (k + 1)).all (cs.contains ·) = true := by
  rw [List.take_add_one, hx, List.all_append, h1]
  simpa using h2
def BaseOk (base : Int) (cs : List UInt8) : Prop := (base = 8 ∧ cs = octD) ∨ (base = 10 ∧ cs = tenD) ∨ (base = 16 ∧ cs = hexU)
/-- A byte's worth as a digit; 99: none. -/
def worth (c : Nat) : Nat := if 48 ≤ c ∧ c ≤ 57 then c - 48 else if 97 ≤ c ∧ c ≤ 102 then c - 97 + 10 else if 65 ≤ c ∧ c ≤ 70 then c - 65 + 10 else 99
theorem worth_all : ∀ n : Fin 256, octD.contains (UInt8.ofNat n.val) = decide (worth n.val < 8) ∧ tenD.contains (UInt8.ofNat n.val) = decide (worth n.val < 10) ∧ hexU.contains (UInt8.ofNat n.val) = decide (worth n.val < 16) := by decide +kernel
theorem worth_in {base : Int} {cs : List UInt8} (h : BaseOk base cs) (x : UInt8) : cs.contains x = decide ((worth x.toNat : Int) < base) := by
  have := worth_all ⟨x.toNat, x.toNat_lt⟩
  simp only [UInt8.ofNat_toNat] at this
  rcases h with ⟨rfl, rfl⟩ | ⟨rfl, rfl⟩ | ⟨rfl, rfl⟩
  · rw [this.1]; exact decide_eq_decide.2 (by omega)
  · rw [this.2.1]; exact decide_eq_decide.2 (by omega)
  · rw [this.2.2]; exact decide_eq_decide.2 (by omega)
/-- A byte as a digit: what it is worth, way by way. -/
theorem worth_ways {base : Int} {cs : List UInt8} (h : BaseOk base cs) (x : UInt8) : ∃ (c : Int) (v : Int), (x.toNat : Int) = c ∧ 0 ≤ c ∧ c < 256 ∧ (cs.contains x = decide (v < base)) ∧ 
    ((48 ≤ c ∧ c ≤ 57 ∧ v = c - 48) ∨ (97 ≤ c ∧ c ≤ 102 ∧ v = c - 97 + 10) ∨ (65 ≤ c ∧ c ≤ 70 ∧ v = c - 65 + 10) ∨ (c < 48 ∧ v = 99) ∨ (57 < c ∧ c < 65 ∧ v = 99) ∨ (70 < c ∧ c < 97 ∧ v = 99) ∨ (102 < c ∧ v = 99)) := by
  have hx := x.toNat_lt
  refine ⟨_, (worth x.toNat : Int), rfl, by omega, by omega, worth_in h x, ?_⟩
  unfold worth
  split
  · exact .inl ⟨by omega, by omega, by omega⟩
  · split
    · exact .inr (.inl ⟨by omega, by omega, by omega⟩)
    · split
      · exact .inr (.inr (.inl ⟨by omega, by omega, by omega⟩))
      · omega
set_option maxHeartbeats 2000000 in
set_option maxRecDepth 100000 in
theorem rdig_at {w W : World} (hb : Below w.heap.size w W) (s : ByteArray) (hs : s.size ≤ 1000000) (base : Int) (cs : List UInt8) (hbase : BaseOk base cs) (n : Nat) (hn : digN cs s.toList = n) :
    Calls Try.prog 116 #[.string s, .int .i64 base] W fun e w' => e = .returned (.int .i64 (n : Int)) ∧ Below w.heap.size w w' := by
  have HB := Lib.hid hb
  have HN := Lib.hid hn
  have HO := Lib.hid hbase
  have hb1 : 1 ≤ base ∧ base ≤ 16 := by rcases hbase with ⟨h, _⟩ | ⟨h, _⟩ | ⟨h, _⟩ <;> omega
  obtain ⟨hb1, hb2⟩ := hb1
  clear hb hn hbase
  go_enter Try.func116, Try.ntmps116
  go_wp2_with fail
  go_loopw [5] (fun v V => ∃ k : Nat, k ≤ s.size ∧ V = W ∧ v = .int .i64 (k : Int) ∧ Hid ((s.toList.take k).all (cs.contains ·) = true)) (fun v _ => s.size - (intOf v).toNat)
  case atStart => exact ⟨0, by omega, rfl, rfl, by show _ = _; simp⟩
  case round =>
    obtain ⟨k, hk, rfl, rfl, HA⟩ := hrel
    by_cases hlt : k < s.size
    · have hat := list_at s k hlt
      have hix : ∀ V, (Instr.index 9 (.string s) (.int .i64 (k : Int))).run Try.prog V = .ok (.int .u8 (s[k].toNat : Int)) V := by
        intro V
        rw [run_index_string V 9 s .i64 _ Try.underlying9, dif_pos (by omega)]
        simp
      generalize s[k] = x at hat hix
      obtain ⟨c, v, hc, hc0, hc1, hv, hw⟩ := worth_ways HO.out x
      rw [hc] at hix
      have dk : (k : Int) < (s.size : Int) := by omega
      clear hc
      by_cases hvb : v < base
      · have HA2 : Hid ((s.toList.take (k + 1)).all (cs.contains ·) = true) := all_step cs _ k x hat HA.out (by rw [hv]; exact decide_eq_true hvb)
        have hvb' : decide (base ≤ v) = false := decide_eq_false (by omega)
        clear hv hat
        rcases hw with ⟨h1, h2, rfl⟩ | ⟨h1, h2, rfl⟩ | ⟨h1, h2, rfl⟩ | ⟨h1, rfl⟩ | ⟨h1, h2, rfl⟩ | ⟨h1, h2, rfl⟩ | ⟨h1, rfl⟩
        · go_wp2_with fail
          go_roundw
          case rel => exact ⟨k + 1, by omega, by trivial, by go_num, HA2⟩
          case measure => simp [intOf]; omega
        · have g1 : decide (c ≤ 57) = false := decide_eq_false (by omega)
          have g2 : 48 ≤ c := by omega
          go_wp2_with fail
          go_roundw
          case rel => exact ⟨k + 1, by omega, by trivial, by go_num, HA2⟩
          case measure => simp [intOf]; omega
        · have g1 : decide (c ≤ 57) = false := decide_eq_false (by omega)
          have g2 : 48 ≤ c := by omega
          have g3 : decide (97 ≤ c) = false := decide_eq_false (by omega)
          go_wp2_with fail
          go_roundw
          case rel => exact ⟨k + 1, by omega, by trivial, by go_num, HA2⟩
          case measure => simp [intOf]; omega
        all_goals (exfalso; omega)
      · have HE : Hid (k = n) := by
          show _ = _
          rw [← HN.out]
          exact (digN_stop cs _ k HA.out (by rw [list_len]; omega) (fun y hy => by rw [hat] at hy; injection hy with hy; subst hy; rw [hv]; exact decide_eq_false hvb)).symm
        have hvb' : base ≤ v := by omega
        clear hv hat hvb
        rcases hw with ⟨h1, h2, rfl⟩ | ⟨h1, h2, rfl⟩ | ⟨h1, h2, rfl⟩ | ⟨h1, rfl⟩ | ⟨h1, h2, rfl⟩ | ⟨h1, h2, rfl⟩ | ⟨h1, rfl⟩
        · go_wp2_with fail
          go_ret
          exact ⟨ret_int (by rw [HE.out]), HB.out⟩
        · have g1 : decide (c ≤ 57) = false := decide_eq_false (by omega)
          have g2 : 48 ≤ c := by omega
          go_wp2_with fail
          go_ret
          exact ⟨ret_int (by rw [HE.out]), HB.out⟩
        · have g1 : decide (c ≤ 57) = false := decide_eq_false (by omega)
          have g2 : 48 ≤ c := by omega
          have g3 : decide (97 ≤ c) = false := decide_eq_false (by omega)
          go_wp2_with fail
          go_ret
          exact ⟨ret_int (by rw [HE.out]), HB.out⟩
        · have g1 : decide (48 ≤ c) = false := decide_eq_false (by omega)
          have g3 : decide (97 ≤ c) = false := decide_eq_false (by omega)
          have g4 : decide (65 ≤ c) = false := decide_eq_false (by omega)
          go_wp2_with fail
          go_ret
          exact ⟨ret_int (by rw [HE.out]), HB.out⟩
        · have g1 : decide (c ≤ 57) = false := decide_eq_false (by omega)
          have g2 : 48 ≤ c := by omega
          have g3 : decide (97 ≤ c) = false := decide_eq_false (by omega)
          have g4 : decide (65 ≤ c) = false := decide_eq_false (by omega)
          go_wp2_with fail
          go_ret
          exact ⟨ret_int (by rw [HE.out]), HB.out⟩
        · have g1 : decide (c ≤ 57) = false := decide_eq_false (by omega)
          have g2 : 48 ≤ c := by omega
          have g3 : decide (97 ≤ c) = false := decide_eq_false (by omega)
          have g4 : 65 ≤ c := by omega
          have g5 : decide (c ≤ 70) = false := decide_eq_false (by omega)
          go_wp2_with fail
          go_ret
          exact ⟨ret_int (by rw [HE.out]), HB.out⟩
        · have g1 : decide (c ≤ 57) = false := decide_eq_false (by omega)
          have g2 : 48 ≤ c := by omega
          have g3 : 97 ≤ c := by omega
          have g6 : decide (c ≤ 102) = false := decide_eq_false (by omega)
          have g4 : 65 ≤ c := by omega
          have g5 : decide (c ≤ 70) = false := decide_eq_false (by omega)
          go_wp2_with fail
          go_ret
          exact ⟨ret_int (by rw [HE.out]), HB.out⟩
    · obtain rfl : k = s.size := by omega
      have HE : Hid (s.size = n) := by
        show _ = _
        rw [← HN.out]
        exact (digN_stop cs _ s.size HA.out (by rw [list_len]; omega) (fun y hy => by have := (List.getElem?_eq_some_iff.1 hy).1; rw [list_len] at this; omega)).symm
      have d : decide ((s.size : Int) < (s.size : Int)) = false := decide_eq_false (by omega)
      go_wp2_with fail
      go_ret
      exact ⟨ret_int (by rw [HE.out]), HB.out⟩
theorem allF_dig (cs l : List UInt8) : allF cs l = (!l.isEmpty && decide (digN cs l = l.length)) := by
  unfold allF
  congr 1
  have h := digN_le cs l
  cases ht : trmF cs l with
  | nil => rw [ht] at h; simp at h; exact (decide_eq_true h).symm
  | cons c t => rw [ht] at h; simp at h; exact (decide_eq_false (by omega)).symm
theorem pre2 (a b : UInt8) (l : List UInt8) : Lib.hasPrefix l [a, b] = (decide (2 ≤ l.length) && (l.take 2 == [a, b])) := (Lib.hasPrefix_of_take l [a, b]).symm
theorem int_ten (l : List UInt8) (h : allF tenD (unsF l) = true) : intF l = true := by
  have key : ∀ b : UInt8, tenD.contains b = false → Lib.hasPrefix l [48, b] = false := by
    intro b hb
    cases hp : Lib.hasPrefix l [48, b] with
    | false => rfl
    | true =>
      exfalso
      rw [pre2, Bool.and_eq_true, beq_iff_eq] at hp
      have hl : l = 48 :: b :: l.drop 2 := by
        have := List.take_append_drop 2 l
        rw [hp.2] at this
        exact this.symm
      rw [hl, unsF, if_neg (by decide), allF_all] at h
      simp only [List.all_cons, hb] at h
      simp at h
  rw [intF, key 111 (by decide), key 120 (by decide)]
  simpa using h
theorem trim_pre (a b : UInt8) (l : List UInt8) (h : Lib.hasPrefix l [a, b] = true) : Lib.trimPrefix l [a, b] = l.drop 2 := by
  rw [Lib.trimPrefix, if_pos h]; rfl
theorem int_oct (l : List UInt8) (h2 : 2 < l.length) (ht : l.take 2 = [48, 111]) : intF l = decide (digN octD (l.drop 2) = l.length - 2) := by
  have hp : Lib.hasPrefix l [48, 111] = true := by rw [pre2, decide_eq_true (by omega), ht]; rfl
  rw [intF, if_pos hp, trim_pre _ _ _ hp, allF_dig, List.length_drop]
  have : (l.drop 2).isEmpty = false := by
    cases hd : l.drop 2 with
    | nil => have := congrArg List.length hd; rw [List.length_drop] at this; simp at this; omega
    | cons _ _ => rfl
  rw [this]; rfl
theorem int_hex (l : List UInt8) (h2 : 2 < l.length) (ht : l.take 2 = [48, 120]) : intF l = decide (digN hexU (l.drop 2) = l.length - 2) := by
  have hp : Lib.hasPrefix l [48, 120] = true := by rw [pre2, decide_eq_true (by omega), ht]; rfl
  have hq : Lib.hasPrefix l [48, 111] = false := by rw [pre2, ht]; simp
  rw [intF, if_neg (by simp [hq]), if_pos hp, trim_pre _ _ _ hp, allF_dig, List.length_drop]
  have : (l.drop 2).isEmpty = false := by
    cases hd : l.drop 2 with
    | nil => have := congrArg List.length hd; rw [List.length_drop] at this; simp at this; omega
    | cons _ _ => rfl
  rw [this]; rfl
theorem int_none (l : List UInt8) (h : allF tenD (unsF l) = false) (h1 : ¬ (2 < l.length ∧ l.take 2 = [48, 111])) (h2 : ¬ (2 < l.length ∧ l.take 2 = [48, 120])) : intF l = false := by
  have key : ∀ (b : UInt8) (cs : List UInt8), ¬ (2 < l.length ∧ l.take 2 = [48, b]) → Lib.hasPrefix l [48, b] = true → allF cs (Lib.trimPrefix l [48, b]) = false := by
    intro b cs hn hp
    have hp' := hp
    rw [pre2, Bool.and_eq_true, beq_iff_eq, decide_eq_true_eq] at hp
    have : l.length = 2 := by
      have := hp.1
      have : ¬ 2 < l.length := fun h => hn ⟨h, hp.2⟩
      omega
    rw [trim_pre _ _ _ hp', List.drop_eq_nil_of_le (by omega)]
    rfl
  rw [intF]
  split
  · exact key 111 octD h1 (by assumption)
  · split
    · exact key 120 hexU h2 (by assumption)
    · exact h
/-- s[:2] and s[2:]. -/
theorem cut2 (s : ByteArray) (h : 2 < s.size) : ∃ p q : ByteArray, s.extract 0 2 = p ∧ s.extract 2 s.size = q ∧ p.toList = s.toList.take 2 ∧ q.toList = s.toList.drop 2 ∧ q.size ≤ s.size := by
  refine ⟨_, _, rfl, rfl, ?_, ?_, ?_⟩
  · rw [list_extract]; rfl
  · rw [list_extract, List.take_of_length_le (by rw [List.length_drop, list_len]; omega)]
  · simp [ByteArray.size_extract]
set_option maxHeartbeats 2000000 in
set_option maxRecDepth 100000 in
theorem rint_at {w W : World} (hb : Below w.heap.size w W) (s : ByteArray) (hs : s.size ≤ 1000000) (r : Bool) (hr : intF s.toList = r) : Calls Try.prog 112 #[.string s] W (BoolP r w) := by
  have HB := Lib.hid hb
  have HR := Lib.hid hr
  clear hb hr
  go_enter Try.func112, Try.ntmps112
  go_wp2_with fail
  refine (rsign_at HB.out s).mono ?_
  rintro e w1 ⟨t, ht, rfl, hb1⟩
  have HB1 := Lib.hid hb1
  have hts : t.size ≤ 1000000 := by have := unsF_len s.toList; rw [← ht, list_len, list_len] at this; omega
  have HT := Lib.hid ht
  clear hb1 ht
  cases ha : allF tenD t.toList with
  | true =>
    have : r = true := by rw [← HR.out]; exact int_ten _ (by rw [← HT.out]; exact ha)
    subst this
    rw [allF_dig, Bool.and_eq_true, decide_eq_true_eq, list_len] at ha
    obtain ⟨hte, hdn⟩ := ha
    have hte' : t.toList.isEmpty = false := by simpa using hte
    have HD := Lib.hid hdn
    clear hte hdn HR
    go_wp2_with fail
    refine (rdig_at HB1.out t hts 10 tenD (.inr (.inl ⟨rfl, rfl⟩)) _ HD.out).mono ?_
    rintro e w2 ⟨rfl, hb2⟩
    have HB2 := Lib.hid hb2
    clear hb2
    go_wp2_with fail
    go_ret
    exact ⟨rfl, HB2.out⟩
  | false =>
    have HA : Hid (allF tenD (unsF s.toList) = false) := by show _ = _; rw [← HT.out]; exact ha
    cases hte : t.toList.isEmpty with
    | true =>
      clear ha
      have HBX := HB1
      by_cases h2 : 2 < s.size
      · obtain ⟨p, q, hpe, hqe, hp, hq, hqs⟩ := cut2 s h2
        have hl2 : 2 < s.toList.length := by rw [list_len]; exact h2
        have h2' : (2 : Int) < (s.size : Int) := by omega
        have HQ := Lib.hid hq
        have HP := Lib.hid hp
        clear hq hp
        by_cases ho : s.toList.take 2 = [48, 111]
        · have po : (p.toList == [48, 111]) = true := by rw [HP.out, ho]; rfl
          have HE : Hid (r = decide (digN octD q.toList = s.size - 2)) := by show _ = _; rw [← HR.out, int_oct _ hl2 ho, HQ.out, list_len]
          clear ho
          go_wp2_with fail
          refine (rdig_at HBX.out q (by omega) 8 octD (.inl ⟨rfl, rfl⟩) _ rfl).mono ?_
          rintro e w5 ⟨rfl, hb5⟩
          have HB5 := Lib.hid hb5
          clear hb5
          go_wp2_with fail
          go_ret
          exact ⟨ret_bool (by rw [HE.out]; apply bool_iff; simp; omega), HB5.out⟩
        · have po : (p.toList == [48, 111]) = false := by rw [HP.out]; exact beq_eq_false_iff_ne.2 ho
          by_cases hx : s.toList.take 2 = [48, 120]
          · have px : (p.toList == [48, 120]) = true := by rw [HP.out, hx]; rfl
            have HE : Hid (r = decide (digN hexU q.toList = s.size - 2)) := by show _ = _; rw [← HR.out, int_hex _ hl2 hx, HQ.out, list_len]
            clear ho hx
            go_wp2_with fail
            refine (rdig_at HBX.out q (by omega) 16 hexU (.inr (.inr ⟨rfl, rfl⟩)) _ rfl).mono ?_
            rintro e w5 ⟨rfl, hb5⟩
            have HB5 := Lib.hid hb5
            clear hb5
            go_wp2_with fail
            go_ret
            exact ⟨ret_bool (by rw [HE.out]; apply bool_iff; simp; omega), HB5.out⟩
          · have px : (p.toList == [48, 120]) = false := by rw [HP.out]; exact beq_eq_false_iff_ne.2 hx
            have : r = false := by rw [← HR.out]; exact int_none _ HA.out (fun h => ho h.2) (fun h => hx h.2)
            subst this
            clear ho hx
            go_wp2_with fail
            go_ret
            exact ⟨rfl, HBX.out⟩
      · have h2' : decide ((2 : Int) < (s.size : Int)) = false := decide_eq_false (by omega)
        have : r = false := by rw [← HR.out]; exact int_none _ HA.out (fun h => by have := h.1; rw [list_len] at this; omega) (fun h => by have := h.1; rw [list_len] at this; omega)
        subst this
        go_wp2_with fail
        go_ret
        exact ⟨rfl, HBX.out⟩
    | false =>
      rw [allF_dig, hte, Bool.not_false, Bool.true_and, decide_eq_false_iff_not, list_len] at ha
      obtain ⟨n, hn⟩ : ∃ n, digN tenD t.toList = n := ⟨_, rfl⟩
      rw [hn] at ha
      have HN := Lib.hid hn
      have hne : ((n : Int) == (t.size : Int)) = false := beq_eq_false_iff_ne.2 (by omega)
      clear hn ha
      go_wp2_with fail
      refine (rdig_at HB1.out t hts 10 tenD (.inr (.inl ⟨rfl, rfl⟩)) _ HN.out).mono ?_
      rintro e w2 ⟨rfl, hb2⟩
      have HBX := Lib.hid hb2
      clear hb2
      by_cases h2 : 2 < s.size
      · obtain ⟨p, q, hpe, hqe, hp, hq, hqs⟩ := cut2 s h2
        have hl2 : 2 < s.toList.length := by rw [list_len]; exact h2
        have h2' : (2 : Int) < (s.size : Int) := by omega
        have HQ := Lib.hid hq
        have HP := Lib.hid hp
        clear hq hp
        by_cases ho : s.toList.take 2 = [48, 111]
        · have po : (p.toList == [48, 111]) = true := by rw [HP.out, ho]; rfl
          have HE : Hid (r = decide (digN octD q.toList = s.size - 2)) := by show _ = _; rw [← HR.out, int_oct _ hl2 ho, HQ.out, list_len]
          clear ho
          go_wp2_with fail
          refine (rdig_at HBX.out q (by omega) 8 octD (.inl ⟨rfl, rfl⟩) _ rfl).mono ?_
          rintro e w5 ⟨rfl, hb5⟩
          have HB5 := Lib.hid hb5
          clear hb5
          go_wp2_with fail
          go_ret
          exact ⟨ret_bool (by rw [HE.out]; apply bool_iff; simp; omega), HB5.out⟩
        · have po : (p.toList == [48, 111]) = false := by rw [HP.out]; exact beq_eq_false_iff_ne.2 ho
          by_cases hx : s.toList.take 2 = [48, 120]
          · have px : (p.toList == [48, 120]) = true := by rw [HP.out, hx]; rfl
            have HE : Hid (r = decide (digN hexU q.toList = s.size - 2)) := by show _ = _; rw [← HR.out, int_hex _ hl2 hx, HQ.out, list_len]
            clear ho hx
            go_wp2_with fail
            refine (rdig_at HBX.out q (by omega) 16 hexU (.inr (.inr ⟨rfl, rfl⟩)) _ rfl).mono ?_
            rintro e w5 ⟨rfl, hb5⟩
            have HB5 := Lib.hid hb5
            clear hb5
            go_wp2_with fail
            go_ret
            exact ⟨ret_bool (by rw [HE.out]; apply bool_iff; simp; omega), HB5.out⟩
          · have px : (p.toList == [48, 120]) = false := by rw [HP.out]; exact beq_eq_false_iff_ne.2 hx
            have : r = false := by rw [← HR.out]; exact int_none _ HA.out (fun h => ho h.2) (fun h => hx h.2)
            subst this
            clear ho hx
            go_wp2_with fail
            go_ret
            exact ⟨rfl, HBX.out⟩
      · have h2' : decide ((2 : Int) < (s.size : Int)) = false := decide_eq_false (by omega)
        have : r = false := by rw [← HR.out]; exact int_none _ HA.out (fun h => by have := h.1; rw [list_len] at this; omega) (fun h => by have := h.1; rw [list_len] at this; omega)
        subst this
        go_wp2_with fail
        go_ret
        exact ⟨rfl, HBX.out⟩
theorem trmF_twice (cs l : List UInt8) : trmF cs (trmF cs l) = trmF cs l := by
  induction l with
  | nil => rfl
  | cons c t ih =>
    rw [trmF_cons]
    cases h : cs.contains c with
    | true => rw [if_pos rfl]; exact ih
    | false => rw [if_neg (by simp), trmF_cons, h, if_neg (by simp)]
theorem frac_pt (t : List UInt8) (h : t[digN tenD t]? = some 46) (k : Nat) (hk : digN tenD (t.drop (digN tenD t + 1)) = k) :
    fracB t = (decide (0 < digN tenD t) || decide (0 < k)) ∧ fracR t = t.drop (digN tenD t + 1 + k) := by
  subst hk
  have hd := digN_drop tenD t
  have hl := digN_le tenD t
  generalize digN tenD t = n at *
  have hw : trmF tenD t = 46 :: t.drop (n + 1) := by
    rw [← hd, List.drop_eq_getElem?_toList_append, h]; rfl
  have hp : ptF t = t.drop (n + 1) := by
    rw [ptF, hw]; rfl
  have hr : fracR t = t.drop (n + 1 + digN tenD (t.drop (n + 1))) := by
    rw [fracR, hp, ← digN_drop, List.drop_drop]
  refine ⟨?_, hr⟩
  have h2 := digN_le tenD (t.drop (n + 1))
  rw [fracB, fracR, hp]
  congr 1
  · exact decide_eq_decide.2 (by omega)
  · exact decide_eq_decide.2 (by omega)
theorem frac_no (t : List UInt8) (h : t[digN tenD t]? ≠ some 46) : fracB t = decide (0 < digN tenD t) ∧ fracR t = t.drop (digN tenD t) := by
  have hd := digN_drop tenD t
  have hl := digN_le tenD t
  have hp : ptF t = trmF tenD t := by
    rw [ptF, Lib.trimPrefix, if_neg]
    intro hc
    apply h
    rw [← hd] at hc
    cases hw : t.drop (digN tenD t) with
    | nil => rw [hw] at hc; cases hc
    | cons c q =>
      rw [hw] at hc
      simp only [Lib.hasPrefix, List.isPrefixOf, Bool.and_true, beq_iff_eq] at hc
      have := congrArg (fun l => l[0]?) hw
      simp only [List.getElem?_drop, Nat.add_zero, List.getElem?_cons_zero] at this
      rw [this, ← hc]
  have hr : fracR t = t.drop (digN tenD t) := by rw [fracR, hp, trmF_twice, hd]
  refine ⟨?_, hr⟩
  rw [fracB, hr, hp, hd, decide_eq_false (Nat.lt_irrefl _), Bool.or_false]
  exact decide_eq_decide.2 (by omega)
theorem exp_of (t : List UInt8) (m : Nat) (x : UInt8) (h : t[m]? = some x) : (t.drop m).isEmpty = false ∧ expF (t.drop m) = ((x == 101 || x == 69) && allF tenD (unsF (t.drop (m + 1)))) := by
  have : t.drop m = x :: t.drop (m + 1) := by rw [List.drop_eq_getElem?_toList_append, h]; rfl
  rw [this]
  exact ⟨rfl, rfl⟩
theorem str_ix (s : ByteArray) (k : Nat) (h : k < s.size) : ∃ x : UInt8, s.toList[k]? = some x ∧ ∀ V, (Instr.index 9 (.string s) (.int .i64 (k : Int))).run Try.prog V = .ok (.int .u8 (x.toNat : Int)) V := by
  refine ⟨s[k], list_at s k h, fun V => ?_⟩
  rw [run_index_string V 9 s .i64 _ Try.underlying9, dif_pos (by omega)]
  simp
theorem str_from (s : ByteArray) (k : Nat) (h : k ≤ s.size) : ∃ u : ByteArray, s.extract k s.size = u ∧ u.toList = s.toList.drop k ∧ u.size ≤ s.size := by
  refine ⟨_, rfl, ?_, ?_⟩
  · rw [list_extract, List.take_of_length_le (by rw [List.length_drop, list_len]; omega)]
  · simp [ByteArray.size_extract]
set_option maxHeartbeats 4000000 in
set_option maxRecDepth 100000 in
theorem rflo_at {w W : World} (hb : Below w.heap.size w W) (s : ByteArray) (hs : s.size ≤ 1000000) (r : Bool) (hr : floF s.toList = r) : Calls Try.prog 113 #[.string s] W (BoolP r w) := by
  have HB := Lib.hid hb
  have HR := Lib.hid hr
  have HB1 : Hid (Below w.heap.size w (W.alloc (.cells (ncs nanL) 9))) := hb.alloc hb.size _
  have HC := Lib.hid (ncs_new W nanL 9)
  obtain ⟨bn, hbn⟩ : ∃ bn, nanF s.toList = bn := ⟨_, rfl⟩
  have HN := Lib.hid hbn
  clear hb hr hbn
  go_enter Try.func113, Try.ntmps113
  go_wp2_with fail
  refine (one_at HB1.out s nanL W.heap.size 3 3 rfl (by omega) (by omega) HC.out bn (by rw [nan_one]; exact HN.out)).mono ?_
  rintro e w1 ⟨rfl, hb1⟩
  have HB2 := Lib.hid hb1
  clear hb1 HB1 HC HB
  cases bn with
  | true =>
    have : r = true := by rw [← HR.out, floF, HN.out]; rfl
    subst this
    go_wp2_with fail
    go_ret
    exact ⟨rfl, HB2.out⟩
  | false =>
    go_wp2_with fail
    refine (rsign_at HB2.out s).mono ?_
    rintro e w2 ⟨t, ht, rfl, hb2⟩
    have HB3 := Lib.hid hb2
    have hts : t.size ≤ 1000000 := by have := unsF_len s.toList; rw [← ht, list_len, list_len] at this; omega
    have HR2 : Hid ((infF t.toList || (fracB t.toList && ((fracR t.toList).isEmpty || expF (fracR t.toList)))) = r) := by
      show _ = _; rw [ht, ← HR.out, floF, HN.out, Bool.false_or]
    clear hb2 ht HR HN HB2
    have HB4 : Hid (Below w.heap.size w (w2.alloc (.cells (ncs infL) 9))) := HB3.out.alloc HB3.out.size _
    have HC2 := Lib.hid (ncs_new w2 infL 9)
    obtain ⟨bi, hbi⟩ : ∃ bi, infF t.toList = bi := ⟨_, rfl⟩
    have HI := Lib.hid hbi
    clear hbi HB3
    go_wp2_with fail
    refine (one_at HB4.out t infL w2.heap.size 3 3 rfl (by omega) (by omega) HC2.out bi (by rw [inf_one]; exact HI.out)).mono ?_
    rintro e w3 ⟨rfl, hb3⟩
    have HB5 := Lib.hid hb3
    clear hb3 HB4 HC2
    cases bi with
    | true =>
      have : r = true := by rw [← HR2.out, HI.out]; rfl
      subst this
      go_wp2_with fail
      go_ret
      exact ⟨rfl, HB5.out⟩
    | false =>
      obtain ⟨n, hn⟩ : ∃ n, digN tenD t.toList = n := ⟨_, rfl⟩
      have hnl : n ≤ t.size := by have := digN_le tenD t.toList; rw [hn, list_len] at this; omega
      have HN := Lib.hid hn
      have HR3 : Hid ((fracB t.toList && ((fracR t.toList).isEmpty || expF (fracR t.toList))) = r) := by
        show _ = _; rw [← HR2.out, HI.out, Bool.false_or]
      clear HR2 HI hn
      go_wp2_with fail
      refine (rdig_at HB5.out t hts 10 tenD (.inr (.inl ⟨rfl, rfl⟩)) n HN.out).mono ?_
      rintro e w4 ⟨rfl, hb4⟩
      have HB6 := Lib.hid hb4
      clear hb4 HB5
      by_cases hlt : n < t.size
      · obtain ⟨x, hx, hix⟩ := str_ix t n hlt
        have e0 := u8_eq x 46
        simp only [show (((46 : UInt8).toNat : Nat) : Int) = 46 from rfl] at e0
        have dlt : (n : Int) < (t.size : Int) := by omega
        by_cases hx46 : x = 46
        · have e0' : ((x.toNat : Int) == 46) = true := by rw [e0]; exact beq_iff_eq.2 hx46
          obtain ⟨q, hqe, hq, hqs⟩ := str_from t (n + 1) (by omega)
          obtain ⟨k, hk⟩ : ∃ k, digN tenD q.toList = k := ⟨_, rfl⟩
          have hfp := frac_pt t.toList (by rw [HN.out, hx, hx46]) k (by rw [HN.out, ← hq]; exact hk)
          rw [HN.out] at hfp
          have hkl : n + 1 + k ≤ t.size := by
            have := digN_le tenD q.toList
            rw [hk, hq, List.length_drop, list_len] at this
            omega
          have HK := Lib.hid hk
          have HF := Lib.hid hfp
          clear hk hfp hx hq e0 hx46
          generalize (x.toNat : Int) = xc at *
          go_wp2_with fail
          refine (rdig_at HB6.out q (by omega) 10 tenD (.inr (.inl ⟨rfl, rfl⟩)) k HK.out).mono ?_
          rintro e w5 ⟨rfl, hb5⟩
          have HBX := Lib.hid hb5
          clear hb5 HB6
          by_cases hz : n = 0 ∧ k = 0
          · obtain ⟨rfl, rfl⟩ := hz
            have : r = false := by rw [← HR3.out, HF.out.1]; rfl
            subst this
            go_wp2_with fail
            go_ret
            exact ⟨rfl, HBX.out⟩
          · have HF2 : Hid (((t.toList.drop (n + 1 + k)).isEmpty || expF (t.toList.drop (n + 1 + k))) = r) := by
              show _ = _
              rw [← HR3.out, HF.out.1, HF.out.2, show (decide (0 < n) || decide (0 < k)) = true by simp; omega, Bool.true_and]
            have hz' : ((n : Int) == 0) = false ∨ (((n : Int) == 0) = true ∧ ((k : Int) == 0) = false) := by
              by_cases h0 : n = 0
              · right; exact ⟨beq_iff_eq.2 (by omega), beq_eq_false_iff_ne.2 (by omega)⟩
              · left; exact beq_eq_false_iff_ne.2 (by omega)
            clear HF HR3 hz
            obtain ⟨m, hm⟩ : ∃ m, n + 1 + k = m := ⟨_, rfl⟩
            rw [hm] at HF2 hkl
            have hmi : (n : Int) + 1 + (k : Int) = (m : Int) := by omega
            have HF := HF2
            clear HF2 hm
            rcases hz' with hz1 | ⟨hz1, hz2⟩
            · by_cases hme : m = t.size
              · subst hme
                have : r = true := by rw [← HF.out, List.drop_eq_nil_of_le (by rw [list_len]; omega)]; rfl
                subst this
                clear HF
                go_wp2_with fail
                go_ret
                exact ⟨rfl, HBX.out⟩
              · have hmne : ((m : Int) == (t.size : Int)) = false := beq_eq_false_iff_ne.2 (by omega)
                obtain ⟨y, hy, hiy⟩ := str_ix t m (by omega)
                obtain ⟨u, hue, hu, hus⟩ := str_from t (m + 1) (by omega)
                have hex := exp_of t.toList m y hy
                have HG : Hid (((y == 101 || y == 69) && allF tenD (unsF u.toList)) = r) := by
                  show _ = _
                  rw [hu, ← hex.2, ← HF.out, hex.1, Bool.false_or]
                have e1 := u8_ne y 101
                have e2 := u8_ne y 69
                simp only [show (((101 : UInt8).toNat : Nat) : Int) = 101 from rfl] at e1
                simp only [show (((69 : UInt8).toNat : Nat) : Int) = 69 from rfl] at e2
                clear hex hy hu HF
                by_cases hyy : y = 101 ∨ y = 69
                · have HG2 : Hid (allF tenD (unsF u.toList) = r) := by
                    show _ = _
                    rw [← HG.out, show (y == 101 || y == 69) = true by simpa using hyy, Bool.true_and]
                  clear HG
                  have hpick : (((y.toNat : Int) != 101) = false) ∨ (((y.toNat : Int) != 101) = true ∧ ((y.toNat : Int) != 69) = false) := by
                    rw [e1, e2]
                    rcases hyy with h | h
                    · left; rw [h]; rfl
                    · right; rw [h]; exact ⟨rfl, rfl⟩
                  clear e1 e2 hyy
                  generalize (y.toNat : Int) = yc at *
                  rcases hpick with e1 | ⟨e1, e2⟩
                  · go_wp2_with fail
                    refine (rsign_at HBX.out u).mono ?_
                    rintro e v1 ⟨x, hx, rfl, hbv1⟩
                    have HV1 := Lib.hid hbv1
                    have hxs : x.size ≤ 1000000 := by have := unsF_len u.toList; rw [← hx, list_len, list_len] at this; omega
                    have HG3 : Hid (allF tenD x.toList = r) := by show _ = _; rw [hx]; exact HG2.out
                    clear hbv1 hx HG2
                    cases hxe : x.toList.isEmpty with
                    | true =>
                      have : r = false := by rw [← HG3.out, allF, hxe]; rfl
                      subst this
                      clear HG3
                      go_wp2_with fail
                      go_ret
                      exact ⟨rfl, HV1.out⟩
                    | false =>
                      have HG4 : Hid (r = decide (digN tenD x.toList = x.size)) := by show _ = _; rw [← HG3.out, allF_dig, hxe, list_len]; rfl
                      clear HG3
                      go_wp2_with fail
                      refine (rdig_at HV1.out x hxs 10 tenD (.inr (.inl ⟨rfl, rfl⟩)) _ rfl).mono ?_
                      rintro e v2 ⟨rfl, hbv2⟩
                      have HV2 := Lib.hid hbv2
                      clear hbv2
                      go_wp2_with fail
                      go_ret
                      exact ⟨ret_bool (by rw [HG4.out]; apply bool_iff; simp; omega), HV2.out⟩
                  · go_wp2_with fail
                    refine (rsign_at HBX.out u).mono ?_
                    rintro e v1 ⟨x, hx, rfl, hbv1⟩
                    have HV1 := Lib.hid hbv1
                    have hxs : x.size ≤ 1000000 := by have := unsF_len u.toList; rw [← hx, list_len, list_len] at this; omega
                    have HG3 : Hid (allF tenD x.toList = r) := by show _ = _; rw [hx]; exact HG2.out
                    clear hbv1 hx HG2
                    cases hxe : x.toList.isEmpty with
                    | true =>
                      have : r = false := by rw [← HG3.out, allF, hxe]; rfl
                      subst this
                      clear HG3
                      go_wp2_with fail
                      go_ret
                      exact ⟨rfl, HV1.out⟩
                    | false =>
                      have HG4 : Hid (r = decide (digN tenD x.toList = x.size)) := by show _ = _; rw [← HG3.out, allF_dig, hxe, list_len]; rfl
                      clear HG3
                      go_wp2_with fail
                      refine (rdig_at HV1.out x hxs 10 tenD (.inr (.inl ⟨rfl, rfl⟩)) _ rfl).mono ?_
                      rintro e v2 ⟨rfl, hbv2⟩
                      have HV2 := Lib.hid hbv2
                      clear hbv2
                      go_wp2_with fail
                      go_ret
                      exact ⟨ret_bool (by rw [HG4.out]; apply bool_iff; simp; omega), HV2.out⟩
                · have : r = false := by rw [← HG.out, show (y == 101 || y == 69) = false by simpa using hyy]; rfl
                  subst this
                  have e1' : ((y.toNat : Int) != 101) = true := by rw [e1, beq_eq_false_iff_ne.2 (fun h => hyy (.inl h))]; rfl
                  have e2' : ((y.toNat : Int) != 69) = true := by rw [e2, beq_eq_false_iff_ne.2 (fun h => hyy (.inr h))]; rfl
                  clear e1 e2 hyy HG
                  generalize (y.toNat : Int) = yc at *
                  go_wp2_with fail
                  go_ret
                  exact ⟨rfl, HBX.out⟩
            · by_cases hme : m = t.size
              · subst hme
                have : r = true := by rw [← HF.out, List.drop_eq_nil_of_le (by rw [list_len]; omega)]; rfl
                subst this
                clear HF
                go_wp2_with fail
                go_ret
                exact ⟨rfl, HBX.out⟩
              · have hmne : ((m : Int) == (t.size : Int)) = false := beq_eq_false_iff_ne.2 (by omega)
                obtain ⟨y, hy, hiy⟩ := str_ix t m (by omega)
                obtain ⟨u, hue, hu, hus⟩ := str_from t (m + 1) (by omega)
                have hex := exp_of t.toList m y hy
                have HG : Hid (((y == 101 || y == 69) && allF tenD (unsF u.toList)) = r) := by
                  show _ = _
                  rw [hu, ← hex.2, ← HF.out, hex.1, Bool.false_or]
                have e1 := u8_ne y 101
                have e2 := u8_ne y 69
                simp only [show (((101 : UInt8).toNat : Nat) : Int) = 101 from rfl] at e1
                simp only [show (((69 : UInt8).toNat : Nat) : Int) = 69 from rfl] at e2
                clear hex hy hu HF
                by_cases hyy : y = 101 ∨ y = 69
                · have HG2 : Hid (allF tenD (unsF u.toList) = r) := by
                    show _ = _
                    rw [← HG.out, show (y == 101 || y == 69) = true by simpa using hyy, Bool.true_and]
                  clear HG
                  have hpick : (((y.toNat : Int) != 101) = false) ∨ (((y.toNat : Int) != 101) = true ∧ ((y.toNat : Int) != 69) = false) := by
                    rw [e1, e2]
                    rcases hyy with h | h
                    · left; rw [h]; rfl
                    · right; rw [h]; exact ⟨rfl, rfl⟩
                  clear e1 e2 hyy
                  generalize (y.toNat : Int) = yc at *
                  rcases hpick with e1 | ⟨e1, e2⟩
                  · go_wp2_with fail
                    refine (rsign_at HBX.out u).mono ?_
                    rintro e v1 ⟨x, hx, rfl, hbv1⟩
                    have HV1 := Lib.hid hbv1
                    have hxs : x.size ≤ 1000000 := by have := unsF_len u.toList; rw [← hx, list_len, list_len] at this; omega
                    have HG3 : Hid (allF tenD x.toList = r) := by show _ = _; rw [hx]; exact HG2.out
                    clear hbv1 hx HG2
                    cases hxe : x.toList.isEmpty with
                    | true =>
                      have : r = false := by rw [← HG3.out, allF, hxe]; rfl
                      subst this
                      clear HG3
                      go_wp2_with fail
                      go_ret
                      exact ⟨rfl, HV1.out⟩
                    | false =>
                      have HG4 : Hid (r = decide (digN tenD x.toList = x.size)) := by show _ = _; rw [← HG3.out, allF_dig, hxe, list_len]; rfl
                      clear HG3
                      go_wp2_with fail
                      refine (rdig_at HV1.out x hxs 10 tenD (.inr (.inl ⟨rfl, rfl⟩)) _ rfl).mono ?_
                      rintro e v2 ⟨rfl, hbv2⟩
                      have HV2 := Lib.hid hbv2
                      clear hbv2
                      go_wp2_with fail
                      go_ret
                      exact ⟨ret_bool (by rw [HG4.out]; apply bool_iff; simp; omega), HV2.out⟩
                  · go_wp2_with fail
                    refine (rsign_at HBX.out u).mono ?_
                    rintro e v1 ⟨x, hx, rfl, hbv1⟩
                    have HV1 := Lib.hid hbv1
                    have hxs : x.size ≤ 1000000 := by have := unsF_len u.toList; rw [← hx, list_len, list_len] at this; omega
                    have HG3 : Hid (allF tenD x.toList = r) := by show _ = _; rw [hx]; exact HG2.out
                    clear hbv1 hx HG2
                    cases hxe : x.toList.isEmpty with
                    | true =>
                      have : r = false := by rw [← HG3.out, allF, hxe]; rfl
                      subst this
                      clear HG3
                      go_wp2_with fail
                      go_ret
                      exact ⟨rfl, HV1.out⟩
                    | false =>
                      have HG4 : Hid (r = decide (digN tenD x.toList = x.size)) := by show _ = _; rw [← HG3.out, allF_dig, hxe, list_len]; rfl
                      clear HG3
                      go_wp2_with fail
                      refine (rdig_at HV1.out x hxs 10 tenD (.inr (.inl ⟨rfl, rfl⟩)) _ rfl).mono ?_
                      rintro e v2 ⟨rfl, hbv2⟩
                      have HV2 := Lib.hid hbv2
                      clear hbv2
                      go_wp2_with fail
                      go_ret
                      exact ⟨ret_bool (by rw [HG4.out]; apply bool_iff; simp; omega), HV2.out⟩
                · have : r = false := by rw [← HG.out, show (y == 101 || y == 69) = false by simpa using hyy]; rfl
                  subst this
                  have e1' : ((y.toNat : Int) != 101) = true := by rw [e1, beq_eq_false_iff_ne.2 (fun h => hyy (.inl h))]; rfl
                  have e2' : ((y.toNat : Int) != 69) = true := by rw [e2, beq_eq_false_iff_ne.2 (fun h => hyy (.inr h))]; rfl
                  clear e1 e2 hyy HG
                  generalize (y.toNat : Int) = yc at *
                  go_wp2_with fail
                  go_ret
                  exact ⟨rfl, HBX.out⟩
        · have e0' : ((x.toNat : Int) == 46) = false := by rw [e0]; exact beq_eq_false_iff_ne.2 hx46
          have hfn := frac_no t.toList (by rw [HN.out, hx]; intro h; injection h with h; exact hx46 h)
          rw [HN.out] at hfn
          have HFN := Lib.hid hfn
          have HBX := HB6
          have HXA := Lib.hid hx
          clear hfn hx e0 hx46 HB6
          by_cases hz : n = 0
          · have : r = false := by rw [← HR3.out, HFN.out.1, hz]; rfl
            subst this
            obtain rfl : n = 0 := hz
            simp only [show ((0 : Nat) : Int) = 0 from rfl] at hix dlt
            clear HFN HR3
            go_wp2_with fail
            go_ret
            exact ⟨rfl, HBX.out⟩
          · have hz' : ((n : Int) == 0) = false := beq_eq_false_iff_ne.2 (by omega)
            have HF : Hid (((t.toList.drop n).isEmpty || expF (t.toList.drop n)) = r) := by
              show _ = _
              rw [← HR3.out, HFN.out.1, HFN.out.2, decide_eq_true (by omega), Bool.true_and]
            clear HFN HR3
            obtain ⟨m, rfl⟩ : ∃ m, m = n := ⟨_, rfl⟩
            by_cases hme : m = t.size
            · subst hme
              have : r = true := by rw [← HF.out, List.drop_eq_nil_of_le (by rw [list_len]; omega)]; rfl
              subst this
              clear HF
              go_wp2_with fail
              go_ret
              exact ⟨rfl, HBX.out⟩
            · have hmne : ((m : Int) == (t.size : Int)) = false := beq_eq_false_iff_ne.2 (by omega)
              obtain ⟨y, rfl⟩ : ∃ y, y = x := ⟨_, rfl⟩
              have hy := HXA.out
              obtain ⟨u, hue, hu, hus⟩ := str_from t (m + 1) (by omega)
              have hex := exp_of t.toList m y hy
              have HG : Hid (((y == 101 || y == 69) && allF tenD (unsF u.toList)) = r) := by
                show _ = _
                rw [hu, ← hex.2, ← HF.out, hex.1, Bool.false_or]
              have e1 := u8_ne y 101
              have e2 := u8_ne y 69
              simp only [show (((101 : UInt8).toNat : Nat) : Int) = 101 from rfl] at e1
              simp only [show (((69 : UInt8).toNat : Nat) : Int) = 69 from rfl] at e2
              clear hex hy hu HF
              by_cases hyy : y = 101 ∨ y = 69
              · have HG2 : Hid (allF tenD (unsF u.toList) = r) := by
                  show _ = _
                  rw [← HG.out, show (y == 101 || y == 69) = true by simpa using hyy, Bool.true_and]
                clear HG
                have hpick : (((y.toNat : Int) != 101) = false) ∨ (((y.toNat : Int) != 101) = true ∧ ((y.toNat : Int) != 69) = false) := by
                  rw [e1, e2]
                  rcases hyy with h | h
                  · left; rw [h]; rfl
                  · right; rw [h]; exact ⟨rfl, rfl⟩
                clear e1 e2 hyy
                generalize (y.toNat : Int) = yc at *
                rcases hpick with e1 | ⟨e1, e2⟩
                · go_wp2_with fail
                  refine (rsign_at HBX.out u).mono ?_
                  rintro e v1 ⟨x, hx, rfl, hbv1⟩
                  have HV1 := Lib.hid hbv1
                  have hxs : x.size ≤ 1000000 := by have := unsF_len u.toList; rw [← hx, list_len, list_len] at this; omega
                  have HG3 : Hid (allF tenD x.toList = r) := by show _ = _; rw [hx]; exact HG2.out
                  clear hbv1 hx HG2
                  cases hxe : x.toList.isEmpty with
                  | true =>
                    have : r = false := by rw [← HG3.out, allF, hxe]; rfl
                    subst this
                    clear HG3
                    go_wp2_with fail
                    go_ret
                    exact ⟨rfl, HV1.out⟩
                  | false =>
                    have HG4 : Hid (r = decide (digN tenD x.toList = x.size)) := by show _ = _; rw [← HG3.out, allF_dig, hxe, list_len]; rfl
                    clear HG3
                    go_wp2_with fail
                    refine (rdig_at HV1.out x hxs 10 tenD (.inr (.inl ⟨rfl, rfl⟩)) _ rfl).mono ?_
                    rintro e v2 ⟨rfl, hbv2⟩
                    have HV2 := Lib.hid hbv2
                    clear hbv2
                    go_wp2_with fail
                    go_ret
                    exact ⟨ret_bool (by rw [HG4.out]; apply bool_iff; simp; omega), HV2.out⟩
                · go_wp2_with fail
                  refine (rsign_at HBX.out u).mono ?_
                  rintro e v1 ⟨x, hx, rfl, hbv1⟩
                  have HV1 := Lib.hid hbv1
                  have hxs : x.size ≤ 1000000 := by have := unsF_len u.toList; rw [← hx, list_len, list_len] at this; omega
                  have HG3 : Hid (allF tenD x.toList = r) := by show _ = _; rw [hx]; exact HG2.out
                  clear hbv1 hx HG2
                  cases hxe : x.toList.isEmpty with
                  | true =>
                    have : r = false := by rw [← HG3.out, allF, hxe]; rfl
                    subst this
                    clear HG3
                    go_wp2_with fail
                    go_ret
                    exact ⟨rfl, HV1.out⟩
                  | false =>
                    have HG4 : Hid (r = decide (digN tenD x.toList = x.size)) := by show _ = _; rw [← HG3.out, allF_dig, hxe, list_len]; rfl
                    clear HG3
                    go_wp2_with fail
                    refine (rdig_at HV1.out x hxs 10 tenD (.inr (.inl ⟨rfl, rfl⟩)) _ rfl).mono ?_
                    rintro e v2 ⟨rfl, hbv2⟩
                    have HV2 := Lib.hid hbv2
                    clear hbv2
                    go_wp2_with fail
                    go_ret
                    exact ⟨ret_bool (by rw [HG4.out]; apply bool_iff; simp; omega), HV2.out⟩
              · have : r = false := by rw [← HG.out, show (y == 101 || y == 69) = false by simpa using hyy]; rfl
                subst this
                have e1' : ((y.toNat : Int) != 101) = true := by rw [e1, beq_eq_false_iff_ne.2 (fun h => hyy (.inl h))]; rfl
                have e2' : ((y.toNat : Int) != 69) = true := by rw [e2, beq_eq_false_iff_ne.2 (fun h => hyy (.inr h))]; rfl
                clear e1 e2 hyy HG
                generalize (y.toNat : Int) = yc at *
                go_wp2_with fail
                go_ret
                exact ⟨rfl, HBX.out⟩
      · have dlt : decide ((n : Int) < (t.size : Int)) = false := decide_eq_false (by omega)
        have hfn := frac_no t.toList (by rw [HN.out, List.getElem?_eq_none (by rw [list_len]; omega)]; exact fun h => by cases h)
        rw [HN.out] at hfn
        have HFN := Lib.hid hfn
        have HBX := HB6
        clear hfn HB6
        by_cases hz : n = 0
        · have : r = false := by rw [← HR3.out, HFN.out.1, hz]; rfl
          subst this
          have hz' : ((n : Int) == 0) = true := beq_iff_eq.2 (by omega)
          clear HFN HR3
          go_wp2_with fail
          go_ret
          exact ⟨rfl, HBX.out⟩
        · have hz' : ((n : Int) == 0) = false := beq_eq_false_iff_ne.2 (by omega)
          have HF : Hid (((t.toList.drop n).isEmpty || expF (t.toList.drop n)) = r) := by
            show _ = _
            rw [← HR3.out, HFN.out.1, HFN.out.2, decide_eq_true (by omega), Bool.true_and]
          clear HFN HR3
          obtain ⟨m, rfl⟩ : ∃ m, m = n := ⟨_, rfl⟩
          by_cases hme : m = t.size
          · subst hme
            have : r = true := by rw [← HF.out, List.drop_eq_nil_of_le (by rw [list_len]; omega)]; rfl
            subst this
            clear HF
            go_wp2_with fail
            go_ret
            exact ⟨rfl, HBX.out⟩
          · have hmne : ((m : Int) == (t.size : Int)) = false := beq_eq_false_iff_ne.2 (by omega)
            obtain ⟨y, hy, hiy⟩ := str_ix t m (by omega)
            obtain ⟨u, hue, hu, hus⟩ := str_from t (m + 1) (by omega)
            have hex := exp_of t.toList m y hy
            have HG : Hid (((y == 101 || y == 69) && allF tenD (unsF u.toList)) = r) := by
              show _ = _
              rw [hu, ← hex.2, ← HF.out, hex.1, Bool.false_or]
            have e1 := u8_ne y 101
            have e2 := u8_ne y 69
            simp only [show (((101 : UInt8).toNat : Nat) : Int) = 101 from rfl] at e1
            simp only [show (((69 : UInt8).toNat : Nat) : Int) = 69 from rfl] at e2
            clear hex hy hu HF
            by_cases hyy : y = 101 ∨ y = 69
            · have HG2 : Hid (allF tenD (unsF u.toList) = r) := by
                show _ = _
                rw [← HG.out, show (y == 101 || y == 69) = true by simpa using hyy, Bool.true_and]
              clear HG
              have hpick : (((y.toNat : Int) != 101) = false) ∨ (((y.toNat : Int) != 101) = true ∧ ((y.toNat : Int) != 69) = false) := by
                rw [e1, e2]
                rcases hyy with h | h
                · left; rw [h]; rfl
                · right; rw [h]; exact ⟨rfl, rfl⟩
              clear e1 e2 hyy
              generalize (y.toNat : Int) = yc at *
              rcases hpick with e1 | ⟨e1, e2⟩
              · go_wp2_with fail
                refine (rsign_at HBX.out u).mono ?_
                rintro e v1 ⟨x, hx, rfl, hbv1⟩
                have HV1 := Lib.hid hbv1
                have hxs : x.size ≤ 1000000 := by have := unsF_len u.toList; rw [← hx, list_len, list_len] at this; omega
                have HG3 : Hid (allF tenD x.toList = r) := by show _ = _; rw [hx]; exact HG2.out
                clear hbv1 hx HG2
                cases hxe : x.toList.isEmpty with
                | true =>
                  have : r = false := by rw [← HG3.out, allF, hxe]; rfl
                  subst this
                  clear HG3
                  go_wp2_with fail
                  go_ret
                  exact ⟨rfl, HV1.out⟩
                | false =>
                  have HG4 : Hid (r = decide (digN tenD x.toList = x.size)) := by show _ = _; rw [← HG3.out, allF_dig, hxe, list_len]; rfl
                  clear HG3
                  go_wp2_with fail
                  refine (rdig_at HV1.out x hxs 10 tenD (.inr (.inl ⟨rfl, rfl⟩)) _ rfl).mono ?_
                  rintro e v2 ⟨rfl, hbv2⟩
                  have HV2 := Lib.hid hbv2
                  clear hbv2
                  go_wp2_with fail
                  go_ret
                  exact ⟨ret_bool (by rw [HG4.out]; apply bool_iff; simp; omega), HV2.out⟩
              · go_wp2_with fail
                refine (rsign_at HBX.out u).mono ?_
                rintro e v1 ⟨x, hx, rfl, hbv1⟩
                have HV1 := Lib.hid hbv1
                have hxs : x.size ≤ 1000000 := by have := unsF_len u.toList; rw [← hx, list_len, list_len] at this; omega
                have HG3 : Hid (allF tenD x.toList = r) := by show _ = _; rw [hx]; exact HG2.out
                clear hbv1 hx HG2
                cases hxe : x.toList.isEmpty with
                | true =>
                  have : r = false := by rw [← HG3.out, allF, hxe]; rfl
                  subst this
                  clear HG3
                  go_wp2_with fail
                  go_ret
                  exact ⟨rfl, HV1.out⟩
                | false =>
                  have HG4 : Hid (r = decide (digN tenD x.toList = x.size)) := by show _ = _; rw [← HG3.out, allF_dig, hxe, list_len]; rfl
                  clear HG3
                  go_wp2_with fail
                  refine (rdig_at HV1.out x hxs 10 tenD (.inr (.inl ⟨rfl, rfl⟩)) _ rfl).mono ?_
                  rintro e v2 ⟨rfl, hbv2⟩
                  have HV2 := Lib.hid hbv2
                  clear hbv2
                  go_wp2_with fail
                  go_ret
                  exact ⟨ret_bool (by rw [HG4.out]; apply bool_iff; simp; omega), HV2.out⟩
            · have : r = false := by rw [← HG.out, show (y == 101 || y == 69) = false by simpa using hyy]; rfl
              subst this
              have e1' : ((y.toNat : Int) != 101) = true := by rw [e1, beq_eq_false_iff_ne.2 (fun h => hyy (.inl h))]; rfl
              have e2' : ((y.toNat : Int) != 69) = true := by rw [e2, beq_eq_false_iff_ne.2 (fun h => hyy (.inr h))]; rfl
              clear e1 e2 hyy HG
              generalize (y.toNat : Int) = yc at *
              go_wp2_with fail
              go_ret
              exact ⟨rfl, HBX.out⟩
set_option maxHeartbeats 1000000 in
theorem rres_at {w W : World} (hb : Below w.heap.size w W) (s : ByteArray) (hs : s.size ≤ 1000000) (r : ByteArray) (h : resF s.toList = r.toList) : Calls Try.prog 105 #[.string s] W (TxtP r w) := by
  have HB := Lib.hid hb
  have HH := Lib.hid h
  clear hb h
  cases h1 : nullF s.toList with
  | true =>
    obtain rfl : r = mk [33, 33, 110, 117, 108, 108] := list_inj (by rw [← HH.out, resF, if_pos h1, mk_list])
    have H1 := Lib.hid h1
    clear h1 HH
    go_enter Try.func105, Try.ntmps105
    go_wp2_with fail
    refine (rnull_at HB.out s _ H1.out).mono ?_
    rintro e w1 ⟨rfl, hb1⟩
    have HB1 := Lib.hid hb1
    clear hb1
    go_wp2_with fail
    go_ret
    exact ⟨rfl, HB1.out⟩
  | false =>
    have H1 := Lib.hid h1
    cases h2 : boolF s.toList with
    | true =>
      obtain rfl : r = mk [33, 33, 98, 111, 111, 108] := list_inj (by rw [← HH.out, resF, h1, if_neg (by simp), if_pos h2, mk_list])
      have H2 := Lib.hid h2
      clear h1 h2 HH
      go_enter Try.func105, Try.ntmps105
      go_wp2_with fail
      refine (rnull_at HB.out s _ H1.out).mono ?_
      rintro e w1 ⟨rfl, hb1⟩
      have HB1 := Lib.hid hb1
      clear hb1
      go_wp2_with fail
      refine (rbool_at HB1.out s _ H2.out).mono ?_
      rintro e w2 ⟨rfl, hb2⟩
      have HB2 := Lib.hid hb2
      clear hb2
      go_wp2_with fail
      go_ret
      exact ⟨rfl, HB2.out⟩
    | false =>
      have H2 := Lib.hid h2
      cases h3 : intF s.toList with
      | true =>
        obtain rfl : r = mk [33, 33, 105, 110, 116] := list_inj (by rw [← HH.out, resF, h1, if_neg (by simp), h2, if_neg (by simp), if_pos h3, mk_list])
        have H3 := Lib.hid h3
        clear h1 h2 h3 HH
        go_enter Try.func105, Try.ntmps105
        go_wp2_with fail
        refine (rnull_at HB.out s _ H1.out).mono ?_
        rintro e w1 ⟨rfl, hb1⟩
        have HB1 := Lib.hid hb1
        clear hb1
        go_wp2_with fail
        refine (rbool_at HB1.out s _ H2.out).mono ?_
        rintro e w2 ⟨rfl, hb2⟩
        have HB2 := Lib.hid hb2
        clear hb2
        go_wp2_with fail
        refine (rint_at HB2.out s hs _ H3.out).mono ?_
        rintro e w3 ⟨rfl, hb3⟩
        have HB3 := Lib.hid hb3
        clear hb3
        go_wp2_with fail
        go_ret
        exact ⟨rfl, HB3.out⟩
      | false =>
        have H3 := Lib.hid h3
        cases h4 : floF s.toList with
        | true =>
          obtain rfl : r = mk [33, 33, 102, 108, 111, 97, 116] := list_inj (by rw [← HH.out, resF, h1, if_neg (by simp), h2, if_neg (by simp), h3, if_neg (by simp), if_pos h4, mk_list])
          have H4 := Lib.hid h4
          clear h1 h2 h3 h4 HH
          go_enter Try.func105, Try.ntmps105
          go_wp2_with fail
          refine (rnull_at HB.out s _ H1.out).mono ?_
          rintro e w1 ⟨rfl, hb1⟩
          have HB1 := Lib.hid hb1
          clear hb1
          go_wp2_with fail
          refine (rbool_at HB1.out s _ H2.out).mono ?_
          rintro e w2 ⟨rfl, hb2⟩
          have HB2 := Lib.hid hb2
          clear hb2
          go_wp2_with fail
          refine (rint_at HB2.out s hs _ H3.out).mono ?_
          rintro e w3 ⟨rfl, hb3⟩
          have HB3 := Lib.hid hb3
          clear hb3
          go_wp2_with fail
          refine (rflo_at HB3.out s hs _ H4.out).mono ?_
          rintro e w4 ⟨rfl, hb4⟩
          have HB4 := Lib.hid hb4
          clear hb4
          go_wp2_with fail
          go_ret
          exact ⟨rfl, HB4.out⟩
        | false =>
          obtain rfl : r = mk [33, 33, 115, 116, 114] := list_inj (by rw [← HH.out, resF, h1, if_neg (by simp), h2, if_neg (by simp), h3, if_neg (by simp), h4, if_neg (by simp), mk_list])
          have H4 := Lib.hid h4
          clear h1 h2 h3 h4 HH
          go_enter Try.func105, Try.ntmps105
          go_wp2_with fail
          refine (rnull_at HB.out s _ H1.out).mono ?_
          rintro e w1 ⟨rfl, hb1⟩
          have HB1 := Lib.hid hb1
          clear hb1
          go_wp2_with fail
          refine (rbool_at HB1.out s _ H2.out).mono ?_
          rintro e w2 ⟨rfl, hb2⟩
          have HB2 := Lib.hid hb2
          clear hb2
          go_wp2_with fail
          refine (rint_at HB2.out s hs _ H3.out).mono ?_
          rintro e w3 ⟨rfl, hb3⟩
          have HB3 := Lib.hid hb3
          clear hb3
          go_wp2_with fail
          refine (rflo_at HB3.out s hs _ H4.out).mono ?_
          rintro e w4 ⟨rfl, hb4⟩
          have HB4 := Lib.hid hb4
          clear hb4
          go_wp2_with fail
          go_ret
          exact ⟨rfl, HB4.out⟩
end Go.Proofs.Ytcddlconcngjlaa
