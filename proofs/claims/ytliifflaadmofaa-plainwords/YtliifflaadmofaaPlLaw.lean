/- PlainValid, the document's answer; the document's examples. -/
import Derived.Test.YtliifflaadmofaaPlRef2
import Derived.Deep.DeepCutAuto
namespace Go.Proofs.Ytliifflaadmofaa
open Go.RowKit
set_option linter.unusedVariables false

theorem str_none (s : ByteArray) (h : 0 < s.size) : s.toList.isEmpty = false ∧ ¬ s.toList = [] := by
  have hn : ¬ s.toList = [] := by
    rw [Lib.toList_data]
    intro e
    have h2 : s.data.toList.length = 0 := by rw [e]; rfl
    have h3 : s.data.toList.length = s.size := by simp
    omega
  exact ⟨by simpa using hn, hn⟩
theorem str_nil (s : ByteArray) (h : s.size = 0) : s.toList.isEmpty = true ∧ s.toList = [] := by
  have hn : s.toList = [] := by
    rw [Lib.toList_data]
    exact List.eq_nil_of_length_eq_zero (by simpa using h)
  exact ⟨by simpa using hn, hn⟩

set_option maxHeartbeats 2000000 in
theorem refValid_any (s : ByteArray) (fl : Bool) (w : World) (hs : s.size ≤ 1000000) (v : Bool) (hv : validF (byt s) fl = v) :
    Calls Try.prog 16 #[.string s, .bool fl] w fun e w' => e = .returned (.bool v) ∧ Below w.heap.size w w' := by
  have hn : (byt s).length = s.size := byt_len s
  unfold validF at hv
  rw [hn] at hv
  have C := Lib.hid (clean_any s false w hs _ rfl)
  have HV := Lib.hid hv
  have HN := Lib.hid hn
  clear hv hn
  generalize inF false s.size (byt s) = vi at *
  by_cases h0 : 0 < s.size
  · obtain ⟨he1, he2⟩ := str_none s h0
    cases vi
    · have hf : v = false := by rw [← HV.out]; simp
      subst hf
      go_enter Try.func16, Try.ntmps16
      go_wp2_with (go_at_call 26; refine C.out.mono ?_; rintro e w' ⟨rfl, hb⟩; have HB := Lib.hid hb; clear hb)
      go_ret
      exact ⟨rfl, HB.out⟩
    · have hf : ((lenF (byt s) fl : Int) == (s.size : Int)) = v := by
        rw [← HV.out, decide_eq_true h0]
        apply bool_iff
        simp
        omega
      have HF := Lib.hid hf
      clear hf
      go_enter Try.func16, Try.ntmps16
      go_wp2_with fail
      refine C.out.mono ?_
      rintro e w1 ⟨rfl, hb⟩
      have HB := Lib.hid hb
      clear hb
      obtain ⟨cap, W, hrun, hle, hmax, hrd, hbel⟩ := bytes_of s (by omega) w1
      have HL := Lib.hid (refLength_any (some ⟨w1.heap.size, 0, none⟩) s.size cap (byt s) fl W HN.out hle hmax (byt_byte s) hrd _ rfl)
      have HB2 := Lib.hid hbel
      clear hrd hbel
      generalize lenF (byt s) fl = vl at *
      go_wp2_with (go_at_call 15; refine HL.out.mono ?_; rintro e w' ⟨rfl, rfl⟩)
      go_ret
      exact ⟨ret_bool HF.out, below_step HB.out HB2.out⟩
  · obtain ⟨he1, he2⟩ := str_nil s (by omega)
    have hf : v = false := by rw [← HV.out, decide_eq_false h0]; rfl
    subst hf
    go_enter Try.func16, Try.ntmps16
    go_wp2
    go_ret
    exact ⟨rfl, Below.refl _ _⟩

theorem cells_at : ∀ (zs : List Int) (k : Nat) (v : Int), zs[k]? = some v → (zs.map (Value.int .u8)).toArray[k]? = some (Value.int .u8 v) := by
  intro zs k v h
  simp [h]

/-- Starts, Length and Valid of a text whose bytes are known, as a law calls them. -/
theorem starts_txt {w W W' : World} {u : ByteArray} {cap : Nat} (B : Bytes W u cap W') (hb : Below w.heap.size w W) (fl : Bool) (zs : List Int) (hu : byt u = zs) (v : Bool) (hv : startF zs fl = v) :
    Calls Try.prog 12 #[.slice (some ⟨W.heap.size, 0, none⟩) u.size cap, .bool fl] W' fun e w' => e = .returned (.bool v) ∧ Below w.heap.size w w' := by
  subst hu
  refine (starts_any _ u.size cap (byt u) fl W' (byt_len u) B.le B.max (byt_byte u) B.rd v hv).mono ?_
  rintro e w' ⟨rfl, h⟩
  exact ⟨rfl, below_step (below_step hb B.below) h⟩
theorem length_txt {w W W' : World} {u : ByteArray} {cap : Nat} (B : Bytes W u cap W') (hb : Below w.heap.size w W) (fl : Bool) (zs : List Int) (hu : byt u = zs) (v : Nat) (hv : lenF zs fl = v) :
    Calls Try.prog 10 #[.slice (some ⟨W.heap.size, 0, none⟩) u.size cap, .bool fl] W' fun e w' => e = .returned (.int .i64 (v : Int)) ∧ Below w.heap.size w w' := by
  subst hu
  refine (length_any _ u.size cap (byt u) fl W' (byt_len u) B.le B.max (byt_byte u) B.rd v hv).mono ?_
  rintro e w' ⟨rfl, h⟩
  exact ⟨rfl, below_step (below_step hb B.below) h⟩
theorem valid_txt {w W : World} {u : ByteArray} (hb : Below w.heap.size w W) (hs : u.size ≤ 1000000) (fl : Bool) (zs : List Int) (hu : byt u = zs) (v : Bool) (hv : validF zs fl = v) :
    Calls Try.prog 8 #[.string u, .bool fl] W fun e w' => e = .returned (.bool v) ∧ Below w.heap.size w w' := by
  subst hu
  refine (valid_any u fl W hs v hv).mono ?_
  rintro e w' ⟨rfl, h⟩
  exact ⟨rfl, below_step hb h⟩
/-- Starts of bytes that the program's text writes out, in a block that was made just now. -/
theorem starts_lit {w W : World} (hb : Below w.heap.size w W) (fl : Bool) (zs : List Int) (n : Nat) (hn : zs.length = n) (h0 : n ≤ 1000) (hy : Byte zs) (fz : Nat × Nat) (v : Bool) (hv : startF zs fl = v) :
    Calls Try.prog 12 #[.slice (some ⟨W.heap.size, 0, none⟩) n n, .bool fl] (W.alloc (.cells (zs.map (Value.int .u8)).toArray 5 fz)) fun e w' => e = .returned (.bool v) ∧ Below w.heap.size w w' := by
  refine (starts_any _ n n zs fl _ hn (Nat.le_refl _) (by omega) hy (RdB.new rfl (cells_at zs)) v hv).mono ?_
  rintro e w' ⟨rfl, h⟩
  exact ⟨rfl, below_step (hb.alloc hb.size _) h⟩
set_option maxHeartbeats 1000000 in
theorem wakes_any (w : World) : Calls Try.prog 11 #[] w fun e w' => e = .returned (.bool true) ∧ Below w.heap.size w w' := by
  have kc := fun (w : World) (C : Array Value) (n c : Nat) => Lib.run_convert_bytes_const (P := Try.prog) w 23 5 C n c Try.underlying23 Try.underlying5
  have hc1 : lenF [97, 58, 32, 98] false = 1 := by decide +kernel
  have hc2 : lenF [97, 35, 98, 32, 35, 99] false = 3 := by decide +kernel
  have b1 : Byte [97, 58, 32, 98] := by intro z hz; simp at hz; omega
  have b2 : Byte [97, 35, 98, 32, 35, 99] := by intro z hz; simp at hz; omega
  have H1 := Lib.hid (And.intro hc1 b1)
  have H2 := Lib.hid (And.intro hc2 b2)
  clear hc1 hc2 b1 b2
  go_enter Try.func11, Try.ntmps11
  go_wp2_with fail
  refine (length_any _ 4 4 [97, 58, 32, 98] false _ rfl (by omega) (by omega) H1.out.2 (by exact RdB.new rfl (cells_at [97, 58, 32, 98])) 1 H1.out.1).mono ?_
  rintro e w1 ⟨rfl, hb1⟩
  have HB1 := Lib.hid (below_step ((Below.refl _ _).alloc (Nat.le_refl _) _) hb1)
  clear hb1
  go_wp2_with fail
  refine (length_any _ 6 6 [97, 35, 98, 32, 35, 99] false _ rfl (by omega) (by omega) H2.out.2 (by exact RdB.new rfl (cells_at [97, 35, 98, 32, 35, 99])) 3 H2.out.1).mono ?_
  rintro e w2 ⟨rfl, hb2⟩
  have HB2 := Lib.hid (below_step HB1.out (below_step ((Below.refl _ _).alloc (Nat.le_refl _) _) hb2))
  clear hb2
  go_wp2
  go_ret
  exact ⟨rfl, HB2.out⟩
end Go.Proofs.Ytliifflaadmofaa
