/- Package schema's own functions that stand on few others: Null, Bool, notNumber, infinite, allOf, unsigned, exponent, behindFraction. -/
import Derived.Test.YtdjpdcjljpmfnaaDoorScPure
import Derived.Test.YtdjpdcjljpmfnaaDoorShelf
import Derived.Test.YtdjpdcjljpmfnaaDoorKeep
namespace Go.Proofs.YtdjpdcjljpmfnaaDoor
open Go.RowKit
set_option linter.unusedVariables false

def BoolP (b : Bool) (w : World) (e : Ending) (w' : World) : Prop := e = .returned (.bool b) ∧ Below w.heap.size w w'
def StrP (l : List UInt8) (w : World) (e : Ending) (w' : World) : Prop := ∃ t : ByteArray, t.toList = l ∧ e = .returned (.string t) ∧ Below w.heap.size w w'

set_option maxHeartbeats 400000 in
theorem null_at {w W : World} (hb : Below w.heap.size w W) (s : ByteArray) (b : Bool) (h : nullF s.toList = b) : Calls Tryd.prog 27 #[.string s] W (BoolP b w) := by
  subst h
  have HB := Lib.hid hb
  clear hb
  go_enter Tryd.func27, Tryd.ntmps27
  go_wp2
  all_goals first | (exfalso; simp_all; done) | (go_ret; exact ⟨ret_bool (by simp_all [nullF]), HB.out⟩)
set_option maxHeartbeats 400000 in
theorem bool_at {w W : World} (hb : Below w.heap.size w W) (s : ByteArray) (b : Bool) (h : boolF s.toList = b) : Calls Tryd.prog 28 #[.string s] W (BoolP b w) := by
  subst h
  have HB := Lib.hid hb
  clear hb
  go_enter Tryd.func28, Tryd.ntmps28
  go_wp2
  all_goals first | (exfalso; simp_all; done) | (go_ret; exact ⟨ret_bool (by simp_all [boolF]), HB.out⟩)
set_option maxHeartbeats 400000 in
theorem nan_at {w W : World} (hb : Below w.heap.size w W) (s : ByteArray) (b : Bool) (h : nanF s.toList = b) : Calls Tryd.prog 53 #[.string s] W (BoolP b w) := by
  subst h
  have HB := Lib.hid hb
  clear hb
  go_enter Tryd.func53, Tryd.ntmps53
  go_wp2
  all_goals first | (exfalso; simp_all; done) | (go_ret; exact ⟨ret_bool (by simp_all [nanF]), HB.out⟩)
set_option maxHeartbeats 400000 in
theorem inf_at {w W : World} (hb : Below w.heap.size w W) (s : ByteArray) (b : Bool) (h : infF s.toList = b) : Calls Tryd.prog 54 #[.string s] W (BoolP b w) := by
  subst h
  have HB := Lib.hid hb
  clear hb
  go_enter Tryd.func54, Tryd.ntmps54
  go_wp2
  all_goals first | (exfalso; simp_all; done) | (go_ret; exact ⟨ret_bool (by simp_all [infF]), HB.out⟩)
/-- TrimLeft, its answer a letter. -/
theorem trim_at {w W : World} (hb : Below w.heap.size w W) (s : ByteArray) (cs : List UInt8) (set : ByteArray) (hset : set.toList = cs) (hs : set.size ≤ 100) (ha : cs.all (fun b => decide (b.toNat < 128)) = true) :
    Calls Tryd.prog 69 #[.string s, .string set] W (StrP (trmF cs s.toList) w) := by
  subst hset
  refine (Tryd.strings_TrimLeft s set W (by omega) (by rw [Lib.toList_data] at ha; exact ascii_of_all ha)).mono ?_
  rintro e w' ⟨rfl, hb2⟩
  exact ⟨_, mk_list _, by rw [Lib.toList_data, Lib.toList_data]; rfl, below_step hb hb2⟩
set_option maxHeartbeats 400000 in
theorem allOf_at {w W : World} (hb : Below w.heap.size w W) (s : ByteArray) (cs : List UInt8) (set : ByteArray) (hset : set.toList = cs) (hs : set.size ≤ 100) (ha : cs.all (fun b => decide (b.toNat < 128)) = true) (b : Bool) (h : allF cs s.toList = b) :
    Calls Tryd.prog 51 #[.string s, .string set] W (BoolP b w) := by
  subst h
  have HB := Lib.hid hb
  have HT := Lib.hid (trim_at hb s cs set hset hs ha)
  clear hb hset hs ha
  cases he : s.toList.isEmpty with
  | true =>
    go_enter Tryd.func51, Tryd.ntmps51
    go_wp2_with fail
    go_ret
    exact ⟨ret_bool (by simp [allF, he]), HB.out⟩
  | false =>
    go_enter Tryd.func51, Tryd.ntmps51
    go_wp2_with fail
    refine HT.out.mono ?_
    rintro e w' ⟨t, ht, rfl, hb2⟩
    have H2 := Lib.hid ht
    have HB2 := Lib.hid hb2
    clear ht hb2
    go_wp2_with fail
    go_ret
    exact ⟨ret_bool (by rw [allF, ← H2.out, he]; simp), HB2.out⟩
end Go.Proofs.YtdjpdcjljpmfnaaDoor
