/- PlainValid, the document's answer; the document's examples. -/
import Derived.Test.YtdjpdcjljpmfnaaDoorPlRef2
import Derived.Deep.DeepCutAuto
namespace Go.Proofs.YtdjpdcjljpmfnaaDoor
open Go.RowKit
set_option linter.unusedVariables false
set_option maxRecDepth 100000

theorem str_none (s : ByteArray) (h : 0 < s.size) : s.toList.isEmpty = false ∧ ¬ s.toList = [] := by
  have hn : ¬ s.toList = [] := by
    rw [Lib.toList_data]
    intro e
    have h2 : s.data.toList.length = 0 := by rw [e]; rfl
    have h3 : s.data.toList.length = s.size := by simp
    omega
  exact ⟨by simpa using hn, hn⟩
theorem str_nil (s : ByteArray) (h : s.size = 0) : s.toList.isEmpty = true ∧ s.toList = [] := by
  have hn : s.toList = [] := by
    rw [Lib.toList_data]
    exact List.eq_nil_of_length_eq_zero (by simpa using h)
  exact ⟨by simpa using hn, hn⟩

set_option maxHeartbeats 2000000 in
theorem refValid_any (s : ByteArray) (fl : Bool) (w : World) (hs : s.size ≤ 1000000) (v : Bool) (hv : validF (byt s) fl = v) :
    Calls Tryd.prog 21 #[.string s, .bool fl] w fun e w' => e = .returned (.bool v) ∧ Below w.heap.size w w' := by
  have hn : (byt s).length = s.size := byt_len s
  unfold validF at hv
  rw [hn] at hv
  have C := Lib.hid (clean_any s false w hs _ rfl)
  have HV := Lib.hid hv
  have HN := Lib.hid hn
  clear hv hn
  generalize inF false s.size (byt s) = vi at *
  by_cases h0 : 0 < s.size
  · obtain ⟨he1, he2⟩ := str_none s h0
    cases vi
    · have hf : v = false := by rw [← HV.out]; simp
      subst hf
      go_enter Tryd.func21, Tryd.ntmps21
      go_wp2_with (go_at_call 37; refine C.out.mono ?_; rintro e w' ⟨rfl, hb⟩; have HB := Lib.hid hb; clear hb)
      go_ret
      exact ⟨rfl, HB.out⟩
    · have hf : ((lenF (byt s) fl : Int) == (s.size : Int)) = v := by
        rw [← HV.out, decide_eq_true h0]
        apply bool_iff
        simp
        omega
      have HF := Lib.hid hf
      clear hf
      go_enter Tryd.func21, Tryd.ntmps21
      go_wp2_with fail
      refine C.out.mono ?_
      rintro e w1 ⟨rfl, hb⟩
      have HB := Lib.hid hb
      clear hb
      obtain ⟨cap, W, hrun, hle, hmax, hrd, hbel⟩ := bytes_of s (by omega) w1
      have HL := Lib.hid (refLength_any (some ⟨w1.heap.size, 0, none⟩) s.size cap (byt s) fl W HN.out hle hmax (byt_byte s) hrd _ rfl)
      have HB2 := Lib.hid hbel
      clear hrd hbel
      generalize lenF (byt s) fl = vl at *
      go_wp2_with (go_at_call 38; refine HL.out.mono ?_; rintro e w' ⟨rfl, rfl⟩)
      go_ret
      exact ⟨ret_bool HF.out, below_step HB.out HB2.out⟩
  · obtain ⟨he1, he2⟩ := str_nil s (by omega)
    have hf : v = false := by rw [← HV.out, decide_eq_false h0]; rfl
    subst hf
    go_enter Tryd.func21, Tryd.ntmps21
    go_wp2
    go_ret
    exact ⟨rfl, Below.refl _ _⟩

theorem cells_at : ∀ (zs : List Int) (k : Nat) (v : Int), zs[k]? = some v → (zs.map (Value.int .u8)).toArray[k]? = some (Value.int .u8 v) := by
  intro zs k v h
  simp [h]

/-- Starts, Length and Valid of a text whose bytes are known, as a law calls them. -/
theorem starts_txt {w W W' : World} {u : ByteArray} {cap : Nat} (B : Bytes W u cap W') (hb : Below w.heap.size w W) (fl : Bool) (zs : List Int) (hu : byt u = zs) (v : Bool) (hv : startF zs fl = v) :
    Calls Tryd.prog 47 #[.slice (some ⟨W.heap.size, 0, none⟩) u.size cap, .bool fl] W' fun e w' => e = .returned (.bool v) ∧ Below w.heap.size w w' := by
  subst hu
  refine (starts_any _ u.size cap (byt u) fl W' (byt_len u) B.le B.max (byt_byte u) B.rd v hv).mono ?_
  rintro e w' ⟨rfl, h⟩
  exact ⟨rfl, below_step (below_step hb B.below) h⟩
theorem length_txt {w W W' : World} {u : ByteArray} {cap : Nat} (B : Bytes W u cap W') (hb : Below w.heap.size w W) (fl : Bool) (zs : List Int) (hu : byt u = zs) (v : Nat) (hv : lenF zs fl = v) :
    Calls Tryd.prog 26 #[.slice (some ⟨W.heap.size, 0, none⟩) u.size cap, .bool fl] W' fun e w' => e = .returned (.int .i64 (v : Int)) ∧ Below w.heap.size w w' := by
  subst hu
  refine (length_any _ u.size cap (byt u) fl W' (byt_len u) B.le B.max (byt_byte u) B.rd v hv).mono ?_
  rintro e w' ⟨rfl, h⟩
  exact ⟨rfl, below_step (below_step hb B.below) h⟩
theorem valid_txt {w W : World} {u : ByteArray} (hb : Below w.heap.size w W) (hs : u.size ≤ 1000000) (fl : Bool) (zs : List Int) (hu : byt u = zs) (v : Bool) (hv : validF zs fl = v) :
    Calls Tryd.prog 16 #[.string u, .bool fl] W fun e w' => e = .returned (.bool v) ∧ Below w.heap.size w w' := by
  subst hu
  refine (valid_any u fl W hs v hv).mono ?_
  rintro e w' ⟨rfl, h⟩
  exact ⟨rfl, below_step hb h⟩
/-- Starts of bytes that the program's text writes out, in a block that was made just now. -/
theorem starts_lit {w W : World} (hb : Below w.heap.size w W) (fl : Bool) (zs : List Int) (n : Nat) (hn : zs.length = n) (h0 : n ≤ 1000) (hy : Byte zs) (fz : Nat × Nat) (v : Bool) (hv : startF zs fl = v) :
    Calls Tryd.prog 47 #[.slice (some ⟨W.heap.size, 0, none⟩) n n, .bool fl] (W.alloc (.cells (zs.map (Value.int .u8)).toArray 5 fz)) fun e w' => e = .returned (.bool v) ∧ Below w.heap.size w w' := by
  refine (starts_any _ n n zs fl _ hn (Nat.le_refl _) (by omega) hy (RdB.new rfl (cells_at zs)) v hv).mono ?_
  rintro e w' ⟨rfl, h⟩
  exact ⟨rfl, below_step (hb.alloc hb.size _) h⟩
end Go.Proofs.YtdjpdcjljpmfnaaDoor
