/- What a plain scalar is, as plain functions on lists of bytes: nullF, boolF, intF, floF, resF. No function of the program. -/
import Derived.Test.YtdjpdcjljpmfnaaDoorBase
import Derived.Lib.SlTrimSet
namespace Go.Proofs.YtdjpdcjljpmfnaaDoor
set_option linter.unusedVariables false

def octD : List UInt8 := [48, 49, 50, 51, 52, 53, 54, 55]
def tenD : List UInt8 := [48, 49, 50, 51, 52, 53, 54, 55, 56, 57]
def hexU : List UInt8 := [48, 49, 50, 51, 52, 53, 54, 55, 56, 57, 97, 98, 99, 100, 101, 102, 65, 66, 67, 68, 69, 70]

def nullF (l : List UInt8) : Bool := l.isEmpty || l == [126] || l == [110, 117, 108, 108] || l == [78, 117, 108, 108] || l == [78, 85, 76, 76]
def boolF (l : List UInt8) : Bool := l == [116, 114, 117, 101] || l == [84, 114, 117, 101] || l == [84, 82, 85, 69] || l == [102, 97, 108, 115, 101] || l == [70, 97, 108, 115, 101] || l == [70, 65, 76, 83, 69]
def nanF (l : List UInt8) : Bool := l == [46, 110, 97, 110] || l == [46, 78, 97, 78] || l == [46, 78, 65, 78]
def infF (l : List UInt8) : Bool := l == [46, 105, 110, 102] || l == [46, 73, 110, 102] || l == [46, 73, 78, 70]
def trmF (cs l : List UInt8) : List UInt8 := l.dropWhile (cs.contains ·)
def allF (cs l : List UInt8) : Bool := !l.isEmpty && (trmF cs l).isEmpty
def unsF : List UInt8 → List UInt8
  | [] => []
  | c :: t => if c = 45 ∨ c = 43 then t else c :: t
def intF (l : List UInt8) : Bool :=
  if Lib.hasPrefix l [48, 111] then allF octD (Lib.trimPrefix l [48, 111]) else if Lib.hasPrefix l [48, 120] then allF hexU (Lib.trimPrefix l [48, 120]) else allF tenD (unsF l)
def ptF (l : List UInt8) : List UInt8 := Lib.trimPrefix (trmF tenD l) [46]
def fracR (l : List UInt8) : List UInt8 := trmF tenD (ptF l)
def fracB (l : List UInt8) : Bool := decide ((trmF tenD l).length < l.length) || decide ((fracR l).length < (ptF l).length)
def expF : List UInt8 → Bool
  | [] => false
  | c :: t => (c == 101 || c == 69) && allF tenD (unsF t)
def floF (l : List UInt8) : Bool := nanF l || infF (unsF l) || (fracB (unsF l) && ((fracR (unsF l)).isEmpty || expF (fracR (unsF l))))
def resF (l : List UInt8) : List UInt8 :=
  if nullF l then [33, 33, 110, 117, 108, 108] else if boolF l then [33, 33, 98, 111, 111, 108] else if intF l then [33, 33, 105, 110, 116] else if floF l then [33, 33, 102, 108, 111, 97, 116] else [33, 33, 115, 116, 114]

/-! ### Texts and lists -/
def mk (l : List UInt8) : ByteArray := ⟨l.toArray⟩
theorem mk_list (l : List UInt8) : (mk l).toList = l := by rw [Lib.toList_data]; rfl
theorem list_inj {s t : ByteArray} (h : s.toList = t.toList) : s = t := by
  rw [Lib.toList_data, Lib.toList_data] at h
  exact ByteArray.ext (Array.toList_inj.1 h)
theorem list_len (s : ByteArray) : s.toList.length = s.size := by rw [Lib.toList_data]; simp
theorem list_append (s t : ByteArray) : (s ++ t).toList = s.toList ++ t.toList := by simp [Lib.toList_data]
theorem list_extract (s : ByteArray) (a b : Nat) : (s.extract a b).toList = (s.toList.drop a).take (b - a) := by
  rw [Lib.toList_data, Lib.toList_data, Lib.extract_data]
theorem list_at (s : ByteArray) (k : Nat) (h : k < s.size) : s.toList[k]? = some s[k] := by
  rw [Lib.toList_data, Array.getElem?_toList, Array.getElem?_eq_getElem (by simpa using h)]; rfl
theorem byt_list (s : ByteArray) : byt s = s.toList.map fun c => (c.toNat : Int) := by rw [Lib.toList_data]; rfl

/-! ### Leading bytes -/
theorem trmF_take (cs l : List UInt8) : l.takeWhile (cs.contains ·) ++ trmF cs l = l := List.takeWhile_append_dropWhile
theorem trmF_len (cs l : List UInt8) : (trmF cs l).length ≤ l.length := by
  have := congrArg List.length (trmF_take cs l)
  rw [List.length_append] at this; omega
theorem trmF_cons (cs : List UInt8) (c : UInt8) (t : List UInt8) : trmF cs (c :: t) = if cs.contains c then trmF cs t else c :: t := by
  unfold trmF; rw [List.dropWhile_cons]
theorem trmF_nil (cs : List UInt8) : trmF cs [] = [] := rfl
theorem allF_all (cs l : List UInt8) : allF cs l = (!l.isEmpty && l.all (cs.contains ·)) := by
  unfold allF
  congr 1
  induction l with
  | nil => rfl
  | cons c t ih =>
    rw [trmF_cons, List.all_cons]
    cases h : cs.contains c with
    | true => simp [ih]
    | false => simp
theorem trmF_append (cs a b : List UInt8) (ha : a.all (cs.contains ·) = true) : trmF cs (a ++ b) = trmF cs b := by
  induction a with
  | nil => rfl
  | cons c t ih =>
    rw [List.all_cons, Bool.and_eq_true] at ha
    rw [List.cons_append, trmF_cons, if_pos ha.1, ih ha.2]
end Go.Proofs.YtdjpdcjljpmfnaaDoor
