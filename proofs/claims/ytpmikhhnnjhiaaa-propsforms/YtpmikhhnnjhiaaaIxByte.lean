/- bytes.IndexByte, whatever the byte. -/
import Derived.Test.YtpmikhhnnjhiaaaBytes
import Derived.Lib.BytesEntry
namespace Go.Proofs.Ytpmikhhnnjhiaaa
open Go.RowKit
set_option linter.unusedVariables false

theorem ixc_eq (d : Int) (hd : 0 ≤ d ∧ d < 256) : ∀ (xs : List Int), Byte xs → Lib.indexByte (Lib.bytesOf xs) d.toNat.toUInt8 = if xs.findIdx (· == d) < xs.length then ((xs.findIdx (· == d) : Nat) : Int) else -1 := by
  intro xs
  induction xs with
  | nil => intro _; rfl
  | cons c t ih =>
    intro hb
    have hc := hb c (by simp)
    have ht := ih (fun z hz => hb z (by simp [hz]))
    simp only [Lib.bytesOf, List.map_cons, Lib.indexByte] at ht ⊢
    rw [List.findIdx_cons]
    by_cases h10 : c = d
    · subst h10; simp
    · have e1 : (UInt8.ofNat c.toNat == d.toNat.toUInt8) = false := by
        rw [beq_eq_false_iff_ne]
        intro h
        have := congrArg UInt8.toNat h
        simp at this
        omega
      have e2 : (c == d) = false := beq_eq_false_iff_ne.2 h10
      rw [e1, e2, ht]
      simp only [Bool.false_eq_true, if_false, cond_false, List.length_cons]
      generalize t.findIdx (· == d) = m
      by_cases hlt : m < t.length
      · rw [if_pos hlt, if_neg (by simp), if_pos (show m + 1 < t.length + 1 by omega)]; omega
      · rw [if_neg hlt, if_neg (show ¬ m + 1 < t.length + 1 by omega)]; rfl

def ixC (d : Int) (zs : List Int) : Int := if zs.findIdx (· == d) < zs.length then ((zs.findIdx (· == d) : Nat) : Int) else -1

set_option maxHeartbeats 400000 in
theorem indexByteC_any (d : Int) (hd : 0 ≤ d ∧ d < 256) (A : Option Addr) (n c : Nat) (zs : List Int) (w : World) (hl : zs.length = n) (hb : Byte zs) (hr : RdB w A zs) (v : Int) (hv : ixC d zs = v) :
    Calls Try.prog 44 #[.slice A n c, .int .u8 d] w fun e w' => e = .returned (.int .i64 v) ∧ w = w' := by
  have HV := Lib.hid hv
  clear hv
  by_cases h0 : zs = []
  · subst h0
    obtain rfl : n = 0 := by simpa using hl.symm
    have hv : v = -1 := by rw [← HV.out]; rfl
    subst hv
    cases A with
    | none =>
      clear hr hl
      go_enter Try.func44, Try.ntmps44
      go_wp2
      rw [run_callFunc_extern Try.func48 (by kernel_rfl) (by kernel_rfl) (by kernel_rfl) (e := Extern.BytealgIndexByte.indexByte) (by kernel_rfl), Lib.run_indexByteNil w 0 c d]
      simp only [Result.andThen]
      rw [Oper.upon_value]
      go_wp2
      go_ret
      exact ⟨rfl, rfl⟩
    | some ad =>
      have hrun : (Extern.BytealgIndexByte.indexByte #[.slice (some ad) 0 c, .int .u8 d]).run Try.prog w = .ok (.int .i64 (-1)) w := by
        change Sem.run Try.prog (do
          let b ← Extern.Bytes.bytesOf (.slice (some ad) 0 c)
          let c ← Extern.Bytes.asByte (.int .u8 d)
          match (List.range b.size).find? fun i => b[i]! == c with
          | some i => pure (goInt i)
          | none => pure (goInt (-1))) w = _
        simp only [Extern.Bytes.bytesOf, Extern.Bytes.loadBytes, Extern.Bytes.asByte, Sem.run_bind, Sem.run_pure, Result.andThen]
        rfl
      clear hr hl
      go_enter Try.func44, Try.ntmps44
      go_wp2
      rw [run_callFunc_extern Try.func48 (by kernel_rfl) (by kernel_rfl) (by kernel_rfl) (e := Extern.BytealgIndexByte.indexByte) (by kernel_rfl), hrun]
      simp only [Result.andThen]
      rw [Oper.upon_value]
      go_wp2
      go_ret
      exact ⟨rfl, rfl⟩
  · obtain ⟨b, off, rfl, hc⟩ := hr.addr (List.length_pos_iff.2 h0)
    have hrun := Lib.run_indexByteSlice (P := Try.prog) w b off n c zs hl (fun i hi => hc i (by omega)) d
    rw [ixc_eq d hd zs hb] at hrun
    have hv : (if zs.findIdx (· == d) < zs.length then ((zs.findIdx (· == d) : Nat) : Int) else -1) = v := HV.out
    rw [hv] at hrun
    clear hv hc hr hl
    go_enter Try.func44, Try.ntmps44
    go_wp2
    rw [run_callFunc_extern Try.func48 (by kernel_rfl) (by kernel_rfl) (by kernel_rfl) (e := Extern.BytealgIndexByte.indexByte) (by kernel_rfl), hrun]
    simp only [Result.andThen]
    rw [Oper.upon_value]
    go_wp2
    go_ret
    exact ⟨rfl, rfl⟩
end Go.Proofs.Ytpmikhhnnjhiaaa
