/- utf8.AppendRune behind bytes of our own. -/
import Derived.Test.YtdjpdcjljpmfnaaDoorDbLeaf
import Derived.Test.YtdjpdcjljpmfnaaDoorOne
namespace Go.Proofs.YtdjpdcjljpmfnaaDoor
open Go.RowKit
set_option linter.unusedVariables false
set_option maxRecDepth 100000

theorem some_more (w W : World) (A : Option Addr) (cap p : Nat) (out : List Int) (hp : out.length = p) (hown : W.ownsRow w.heap.size 5 1 (.slice A p cap) p (out.map (Value.int .u8))) (hb : Below w.heap.size w W)
    (zs : List Int) (m : Nat) (hm : zs.length = m) (hsz : p + m ≤ 1000000000) :
    ∃ A' cap' W', (Builtin.append_ #[37, 37] 37 #[.slice A p cap, .slice (some ⟨W.heap.size, 0, none⟩) m m]).run Tryd.prog (W.alloc (.cells (cellsB zs) 5)) = .ok (.slice A' (p + m) cap') W' ∧
      p + m ≤ cap' ∧ cap' ≤ 9223372036854775807 ∧ (A' = none → cap' = 0) ∧ W'.ownsRow w.heap.size 5 1 (.slice A' (p + m) cap') (p + m) ((out ++ zs).map (Value.int .u8)) ∧ Below w.heap.size w W' := by
  have hs := hb.size
  have hbel : Below w.heap.size w (W.alloc (.cells (cellsB zs) 5)) := hb.alloc hs _
  obtain ⟨v', W', hrun, ho, hg, hv⟩ := run_append_bytes (W.alloc (.cells (cellsB zs) 5)) w.heap.size _ p out (own_alloc hown _) (by simp; omega) (some ⟨W.heap.size, 0, none⟩) m m zs hm
    (RdB.new rfl (fun k y hy => cellsB_at k y hy)) hsz
  obtain ⟨A', cap', rfl, h1, h2, h3⟩ := own_form ho
  exact ⟨A', cap', W', hrun, h1, h2, h3, ho, hbel.grown hg (by simp; omega) (own_base hown)⟩

/-- Bytes of a rune put behind bytes of our own. -/
def AppP (w : World) (p : Nat) (out : List Int) (r : Int) (e : Ending) (W' : World) : Prop :=
  ∃ A' cap', e = .returned (.slice A' (p + (utfF r).length) cap') ∧ p + (utfF r).length ≤ cap' ∧ cap' ≤ 9223372036854775807 ∧ (A' = none → cap' = 0) ∧
    W'.ownsRow w.heap.size 5 1 (.slice A' (p + (utfF r).length) cap') (p + (utfF r).length) ((out ++ utfF r).map (Value.int .u8)) ∧ Below w.heap.size w W'
theorem appP_mk {w : World} {p : Nat} {out : List Int} {r : Int} (zs : List Int) (hz : utfF r = zs) (m : Nat) (hm : zs.length = m) {A' : Option Addr} {cap' : Nat} {W' : World}
    (h : p + m ≤ cap' ∧ cap' ≤ 9223372036854775807 ∧ (A' = none → cap' = 0) ∧ W'.ownsRow w.heap.size 5 1 (.slice A' (p + m) cap') (p + m) ((out ++ zs).map (Value.int .u8)) ∧ Below w.heap.size w W') :
    AppP w p out r (.returned (.slice A' (p + m) cap')) W' := by
  subst hz hm
  exact ⟨A', cap', rfl, h⟩

set_option maxHeartbeats 2000000 in
theorem appendRune_1 (w W : World) (A : Option Addr) (cap p : Nat) (out : List Int) (hp : out.length = p) (hown : W.ownsRow w.heap.size 5 1 (.slice A p cap) p (out.map (Value.int .u8))) (hb : Below w.heap.size w W)
    (r : Int) (h1 : 0 ≤ r) (h2 : r < 128) (hsz : p + 4 ≤ 1000000000) :
    Calls Tryd.prog 32 #[.slice A p cap, .int .i32 r] W (AppP w p out r) := by
  have hu : utfF r = [r] := by unfold utfF; rw [if_pos h2]
  obtain ⟨A', cap', W', hrun, g⟩ := some_more w W A cap p out hp hown hb [r] 1 rfl (by omega)
  have HG := Lib.hid (appP_mk [r] hu 1 rfl g)
  have HRUN : Hid (∀ x, x = r → (Builtin.append_ #[37, 37] 37 #[.slice A p cap, .slice (some ⟨W.heap.size, 0, none⟩) 1 1]).run Tryd.prog (W.alloc (.cells #[.int .u8 x] 5)) = .ok (.slice A' (p + 1) cap') W') := by
    rintro x rfl; exact hrun
  have d : r ≤ 127 := by omega
  clear hown hb hp hrun g hu
  go_enter Tryd.func32, Tryd.ntmps32
  go_wp2_with (at_builtin; refine wpList_append_known rfl _ (.tmp 11) 37 rfl (.slice A p cap) (.slice (some ⟨W.heap.size, 0, none⟩) 1 1) _ _ rfl rfl (HRUN.out _ (by omega)) ?_)
  go_ret
  exact HG.out

set_option maxHeartbeats 2000000 in
theorem appendNon_any (w W : World) (A : Option Addr) (cap p : Nat) (out : List Int) (hp : out.length = p) (hown : W.ownsRow w.heap.size 5 1 (.slice A p cap) p (out.map (Value.int .u8))) (hb : Below w.heap.size w W)
    (r : Int) (h1 : 128 ≤ r) (hok : okR r = true) (hsz : p + 4 ≤ 1000000000) :
    Calls Tryd.prog 58 #[.slice A p cap, .int .i32 r] W (AppP w p out r) := by
  obtain ⟨_, hmax, hsu⟩ := okR_parts hok
  have hsu' : r < 55296 ∨ 57343 < r := by unfold surr at hsu; simp at hsu; omega
  by_cases h2 : r < 2048
  · have hu : utfF r = [192 + r / 64, 128 + r % 64] := by unfold utfF; rw [if_neg (by omega), if_pos h2]
    obtain ⟨A', cap', W', hrun, g⟩ := some_more w W A cap p out hp hown hb [192 + r / 64, 128 + r % 64] 2 rfl (by omega)
    have HG := Lib.hid (appP_mk _ hu 2 rfl g)
    have HRUN : Hid (∀ x y, x = 192 + r / 64 → y = 128 + r % 64 → (Builtin.append_ #[37, 37] 37 #[.slice A p cap, .slice (some ⟨W.heap.size, 0, none⟩) 2 2]).run Tryd.prog (W.alloc (.cells #[.int .u8 x, .int .u8 y] 5)) = .ok (.slice A' (p + 2) cap') W') := by
      rintro x y rfl rfl; exact hrun
    have d : r ≤ 2047 := by omega
    clear hown hb hp hrun g hu hok hsu hsu'
    go_enter Tryd.func58, Tryd.ntmps58
    go_wp2_with (at_builtin; refine wpList_append_known rfl _ (.tmp 23) 37 rfl (.slice A p cap) (.slice (some ⟨W.heap.size, 0, none⟩) 2 2) _ _ rfl rfl (HRUN.out _ _ (by omega) (by omega)) ?_)
    go_ret
    exact HG.out
  have d2 : decide (r ≤ 2047) = false := decide_eq_false (by omega)
  by_cases h3 : r < 65536
  · have hu : utfF r = [224 + r / 4096, 128 + r / 64 % 64, 128 + r % 64] := by unfold utfF; rw [if_neg (by omega), if_neg h2, if_pos h3]
    obtain ⟨A', cap', W', hrun, g⟩ := some_more w W A cap p out hp hown hb [224 + r / 4096, 128 + r / 64 % 64, 128 + r % 64] 3 rfl (by omega)
    have HG := Lib.hid (appP_mk _ hu 3 rfl g)
    have HRUN : Hid (∀ x y z, x = 224 + r / 4096 → y = 128 + r / 64 % 64 → z = 128 + r % 64 → (Builtin.append_ #[37, 37] 37 #[.slice A p cap, .slice (some ⟨W.heap.size, 0, none⟩) 3 3]).run Tryd.prog (W.alloc (.cells #[.int .u8 x, .int .u8 y, .int .u8 z] 5)) = .ok (.slice A' (p + 3) cap') W') := by
      rintro x y z rfl rfl rfl; exact hrun
    clear hown hb hp hrun g hu hok hsu
    rcases hsu' with hs | hs
    · go_enter Tryd.func58, Tryd.ntmps58
      go_wp2_with (at_builtin; refine wpList_append_known rfl _ (.tmp 48) 37 rfl (.slice A p cap) (.slice (some ⟨W.heap.size, 0, none⟩) 3 3) _ _ rfl rfl (HRUN.out _ _ _ (by omega) (by omega) (by omega)) ?_)
      go_ret
      exact HG.out
    · have d3 : decide (r < 55296) = false := decide_eq_false (by omega)
      have d4 : r ≤ 65535 := by omega
      go_enter Tryd.func58, Tryd.ntmps58
      go_wp2_with (at_builtin; refine wpList_append_known rfl _ (.tmp 48) 37 rfl (.slice A p cap) (.slice (some ⟨W.heap.size, 0, none⟩) 3 3) _ _ rfl rfl (HRUN.out _ _ _ (by omega) (by omega) (by omega)) ?_)
      go_ret
      exact HG.out
  · have hu : utfF r = [240 + r / 262144, 128 + r / 4096 % 64, 128 + r / 64 % 64, 128 + r % 64] := by unfold utfF; rw [if_neg (by omega), if_neg h2, if_neg h3]
    obtain ⟨A', cap', W', hrun, g⟩ := some_more w W A cap p out hp hown hb [240 + r / 262144, 128 + r / 4096 % 64, 128 + r / 64 % 64, 128 + r % 64] 4 rfl (by omega)
    have HG := Lib.hid (appP_mk _ hu 4 rfl g)
    have HRUN : Hid (∀ x y z u, x = 240 + r / 262144 → y = 128 + r / 4096 % 64 → z = 128 + r / 64 % 64 → u = 128 + r % 64 → (Builtin.append_ #[37, 37] 37 #[.slice A p cap, .slice (some ⟨W.heap.size, 0, none⟩) 4 4]).run Tryd.prog (W.alloc (.cells #[.int .u8 x, .int .u8 y, .int .u8 z, .int .u8 u] 5)) = .ok (.slice A' (p + 4) cap') W') := by
      rintro x y z u rfl rfl rfl rfl; exact hrun
    have d3 : decide (r < 55296) = false := decide_eq_false (by omega)
    have d4 : decide (r ≤ 65535) = false := decide_eq_false (by omega)
    have d5 : 65535 < r := by omega
    clear hown hb hp hrun g hu hok hsu hsu'
    go_enter Tryd.func58, Tryd.ntmps58
    go_wp2_with (at_builtin; refine wpList_append_known rfl _ (.tmp 76) 37 rfl (.slice A p cap) (.slice (some ⟨W.heap.size, 0, none⟩) 4 4) _ _ rfl rfl (HRUN.out _ _ _ _ (by omega) (by omega) (by omega) (by omega)) ?_)
    go_ret
    exact HG.out

set_option maxHeartbeats 2000000 in
theorem appendRune_any (w W : World) (A : Option Addr) (cap p : Nat) (out : List Int) (hp : out.length = p) (hown : W.ownsRow w.heap.size 5 1 (.slice A p cap) p (out.map (Value.int .u8))) (hb : Below w.heap.size w W)
    (r : Int) (hok : okR r = true) (hsz : p + 4 ≤ 1000000000) :
    Calls Tryd.prog 32 #[.slice A p cap, .int .i32 r] W (AppP w p out r) := by
  obtain ⟨h0, hmax, _⟩ := okR_parts hok
  by_cases h1 : r < 128
  · exact appendRune_1 w W A cap p out hp hown hb r h0 h1 hsz
  · have HN := Lib.hid (appendNon_any w W A cap p out hp hown hb r (by omega) hok hsz)
    have d : decide (r ≤ 127) = false := decide_eq_false (by omega)
    clear hp hown hb hok hsz
    go_enter Tryd.func32, Tryd.ntmps32
    go_wp2_with fail
    refine HN.out.mono ?_
    rintro e W' ⟨A', cap', rfl, hg⟩
    have HG := Lib.hid hg
    clear hg
    go_wp2_with fail
    go_ret
    exact ⟨A', cap', rfl, HG.out⟩
end Go.Proofs.YtdjpdcjljpmfnaaDoor
