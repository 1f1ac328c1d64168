/- The contracts of package bytes' plain calls (Equal, HasPrefix); constants as bytes in memory. -/
import Derived.Test.YtjdmbldbbohdbaaBase
namespace Go.Proofs.Ytjdmbldbbohdbaa
open Go.RowKit
set_option linter.unusedVariables false

set_option maxHeartbeats 400000 in
theorem equal_any (A B : Option Addr) (n c m d : Nat) (zs ys : List Int) (w : World) (hl : zs.length = n) (hm : ys.length = m) (hr : RdB w A zs) (hs : RdB w B ys) (hbz : Byte zs) (hby : Byte ys) (v : Bool) (hv : (zs == ys) = v) :
    Calls Try.prog 28 #[.slice A n c, .slice B m d] w fun e w' => e = .returned (.bool v) ∧ w = w' := by
  have h1 := run_string_rd w A n c zs hl hr
  have h2 := run_string_rd w B m d ys hm hs
  have hv' : ((strOfNums zs).toList == (strOfNums ys).toList) = v := by
    rw [← hv]
    apply bool_iff
    simp only [beq_iff_eq, Lib.toList_data]
    exact ⟨fun h => strOfNums_inj hbz hby (ByteArray.ext (Array.toList_inj.1 h)), fun h => by rw [h]⟩
  have HV := Lib.hid hv'
  clear hv hv' hr hs hl hm hbz hby
  generalize strOfNums zs = s at *
  generalize strOfNums ys = t at *
  go_enter Try.func28, Try.ntmps28
  go_wp2
  go_ret
  exact ⟨ret_bool HV.out, rfl⟩
theorem three_at {x y z : Int} : ∀ (k : Nat) (u : Int), [x, y, z][k]? = some u → (#[Value.int .u8 x, .int .u8 y, .int .u8 z] : Array Value)[k]? = some (Value.int .u8 u) := by
  intro k u h
  match k with
  | 0 => simp at h; subst h; rfl
  | 1 => simp at h; subst h; rfl
  | 2 => simp at h; subst h; rfl
  | k + 3 => simp at h
set_option maxHeartbeats 400000 in
theorem hasPrefix_any (A B : Option Addr) (n c m d : Nat) (zs ys : List Int) (w : World) (hl : zs.length = n) (hy : ys.length = m) (h0 : 0 < m) (hnc : n ≤ c) (hm : c ≤ 9223372036854775807) (hr : RdB w A zs) (hs : RdB w B ys) (hbz : Byte zs) (hby : Byte ys) (v : Bool)
    (hv : (decide (m ≤ n) && zs.take m == ys) = v) :
    Calls Try.prog 27 #[.slice A n c, .slice B m d] w fun e w' => e = .returned (.bool v) ∧ w = w' := by
  by_cases h : m ≤ n
  · have d3 : (m : Int) ≤ (n : Int) := by omega
    obtain ⟨b, off, rfl, _⟩ := hr.addr (by omega)
    have e := equal_any (some ⟨b, off, none⟩) B m c m d (zs.take m) ys w (by rw [List.length_take]; omega) hy (hr.take m) hs (hbz.take m) hby v (by rw [← hv, decide_eq_true h]; rfl)
    have E := Lib.hid e
    clear e hv hr hs hbz hby hl hy
    go_enter Try.func27, Try.ntmps27
    go_wp2_with (go_at_call 28; refine E.out.mono ?_; rintro e w' ⟨rfl, rfl⟩)
    go_ret
    exact ⟨rfl, rfl⟩
  · have d3 : decide ((m : Int) ≤ (n : Int)) = false := decide_eq_false (by omega)
    rw [decide_eq_false h] at hv
    have hv : v = false := hv.symm
    subst hv
    clear hr hs hbz hby hl hy
    go_enter Try.func27, Try.ntmps27
    go_wp2
    go_ret
    exact ⟨rfl, rfl⟩
theorem slice_lh (A : Option Addr) (n c lo hi : Nat) (zs : List Int) (hl : zs.length = n) (hnc : n ≤ c) (hA : A = none → c = 0) (h1 : lo ≤ hi) (h2 : hi ≤ n) : ∃ A', 
    (∀ W, (Instr.slice 24 (.slice A n c) (some (.int .i64 (lo : Int))) (some (.int .i64 (hi : Int))) none).run Try.prog W = .ok (.slice A' (hi - lo) (c - lo)) W) ∧ (A' = none → c - lo = 0) ∧
    ∀ W, RdB W A zs → RdB W A' ((zs.drop lo).take (hi - lo)) := by
  obtain ⟨i, hi', hz, hs1, _⟩ := info_parts byte_info
  have hel : Try.prog.elem 24 = 5 := by kernel_rfl
  have hun : Try.prog.underlying 24 = some (.slice (Try.prog.elem 24)) := by rw [hel]; exact Try.underlying24
  have hrun : ∀ W, (Instr.slice 24 (.slice A n c) (some (.int .i64 (lo : Int))) (some (.int .i64 (hi : Int))) none).run Try.prog W = .ok (sliced A lo hi c 1) W := by
    intro W
    rw [run_slice_lh W 24 A n c hun .i64 .i64 _ _ (by omega) (by omega) (by omega), hel]
    simp [sizeOf, typeInfo, hi', hs1, sliced]
  cases A with
  | none =>
    obtain rfl : c = 0 := hA rfl
    refine ⟨none, fun W => by rw [hrun W]; simp [sliced], fun _ => by omega, fun W h => ?_⟩
    have := h.none_
    subst this; simp; exact RdB.nil _ _
  | some a =>
    by_cases h : c = lo
    · refine ⟨some a, fun W => by rw [hrun W]; simp [sliced, h], fun h' => (by cases h'), fun W hr => ?_⟩
      have : hi - lo = 0 := by omega
      rw [this]; simp; exact RdB.nil _ _
    · refine ⟨some (a.add lo), fun W => by rw [hrun W]; simp [sliced, h], fun h' => (by cases h'), fun W hr => ?_⟩
      by_cases h0 : zs = []
      · subst h0; simp; exact RdB.nil _ _
      · obtain ⟨b, off, e, _⟩ := hr.addr (List.length_pos_iff.2 h0)
        injection e with e; subst e
        rw [add_plain]
        exact (hr.drop lo).take _
theorem slice_l (A : Option Addr) (n c lo : Nat) (zs : List Int) (hl : zs.length = n) (hnc : n ≤ c) (hA : A = none → c = 0) (h1 : lo ≤ n) : ∃ A', 
    (∀ W, (Instr.slice 24 (.slice A n c) (some (.int .i64 (lo : Int))) none none).run Try.prog W = .ok (.slice A' (n - lo) (c - lo)) W) ∧ (A' = none → c - lo = 0) ∧
    ∀ W, RdB W A zs → RdB W A' (zs.drop lo) := by
  obtain ⟨A', hr, h2, h3⟩ := slice_lh A n c lo n zs hl hnc hA h1 (Nat.le_refl _)
  refine ⟨A', fun W => ?_, h2, fun W h => ?_⟩
  · have hel : Try.prog.elem 24 = 5 := by kernel_rfl
    have hun : Try.prog.underlying 24 = some (.slice (Try.prog.elem 24)) := by rw [hel]; exact Try.underlying24
    rw [← hr W, run_slice_lh W 24 A n c hun .i64 .i64 _ _ (by omega) (by omega) (by omega), run_slice_l W 24 A n c hun .i64 _ (by omega) (by omega)]
    simp
  · have := h3 W h
    rwa [List.take_of_length_le (by rw [List.length_drop]; omega)] at this
/-- The same, the place spelt as a number. -/
theorem slice_lI (A : Option Addr) (n c lo : Nat) (v : Int) (hv : v = (lo : Int)) (zs : List Int) (hl : zs.length = n) (hnc : n ≤ c) (hA : A = none → c = 0) (h1 : lo ≤ n) : ∃ A',
    (∀ W, (Instr.slice 24 (.slice A n c) (some (.int .i64 v)) none none).run Try.prog W = .ok (.slice A' (n - lo) (c - lo)) W) ∧ (A' = none → c - lo = 0) ∧
    ∀ W, RdB W A zs → RdB W A' (zs.drop lo) := by
  subst hv
  exact slice_l A n c lo zs hl hnc hA h1
/-- The beginning. -/
theorem slice_h (A : Option Addr) (n c hi : Nat) (h2 : hi ≤ n) (hnc : n ≤ c) (hA : A = none → c = 0) :
    ∀ W, (Instr.slice 24 (.slice A n c) none (some (.int .i64 (hi : Int))) none).run Try.prog W = .ok (.slice A hi c) W := by
  intro W
  obtain ⟨i, hi', hz, hs1, _⟩ := info_parts byte_info
  have hel : Try.prog.elem 24 = 5 := by kernel_rfl
  have hun : Try.prog.underlying 24 = some (.slice (Try.prog.elem 24)) := by rw [hel]; exact Try.underlying24
  rw [run_slice_h W 24 A n c hun .i64 _ (by omega) (by omega), hel]
  cases A with
  | none =>
    obtain rfl : c = 0 := hA rfl
    obtain rfl : hi = 0 := by omega
    simp [sizeOf, typeInfo, hi', hs1, sliced]
  | some a =>
    simp [sizeOf, typeInfo, hi', hs1, sliced]
    intro _
    unfold Addr.add
    split <;> simp_all
/-- Bytes as a text, held against a text. -/
theorem str_eq (zs : List Int) (hb : Byte zs) (s : ByteArray) : ((strOfNums zs).toList == s.toList) = (zs == byt s) := by
  apply bool_iff
  simp only [beq_iff_eq, Lib.toList_data]
  constructor
  · intro h
    rw [← ByteArray.ext (Array.toList_inj.1 h), byt_strOfNums zs hb]
  · intro h
    rw [h, strOfNums_byt]
/-- How long the slice in a slot is: for a loop's measure. -/
def lenV : Value → Nat | .slice _ n _ => n | _ => 0
theorem cell_keep {w w' : World} {p : Addr} {v : Value} (hb : Below w.heap.size w w') (h : w.cell? p = some v) : w'.cell? p = some v := by
  rw [hb.cell (World.block_lt_of_cell? _ _ h)]; exact h
end Go.Proofs.Ytjdmbldbbohdbaa
