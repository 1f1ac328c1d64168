/- Contracts of package lines' functions on bytes: begin, lineFrom; rows of lines in memory. -/
import Derived.Test.YtodnfdkcmhiljaaKeep
import Derived.Test.YtodnfdkcmhiljaaBytes
import Derived.Test.YtodnfdkcmhiljaaLnPure
import Derived.Lib.BytesEntry
namespace Go.Proofs.Ytodnfdkcmhiljaa
open Go.RowKit
set_option linter.unusedVariables false

theorem ix_eq : ∀ (xs : List Int), Byte xs → Lib.indexByte (Lib.bytesOf xs) (10 : Int).toNat.toUInt8 = if xs.findIdx (· == 10) < xs.length then ((xs.findIdx (· == 10) : Nat) : Int) else -1 := by
  intro xs
  induction xs with
  | nil => intro _; rfl
  | cons c t ih =>
    intro hb
    have hc := hb c (by simp)
    have ht := ih (fun z hz => hb z (by simp [hz]))
    simp only [Lib.bytesOf, List.map_cons, Lib.indexByte] at ht ⊢
    rw [List.findIdx_cons]
    by_cases h10 : c = 10
    · subst h10; simp
    · have e1 : (UInt8.ofNat c.toNat == (10 : Int).toNat.toUInt8) = false := by
        rw [beq_eq_false_iff_ne]
        intro h
        have := congrArg UInt8.toNat h
        simp at this
        omega
      have e2 : (c == (10 : Int)) = false := beq_eq_false_iff_ne.2 h10
      rw [e1, e2, ht]
      simp only [Bool.false_eq_true, if_false, cond_false, List.length_cons]
      generalize t.findIdx (· == 10) = m
      by_cases hlt : m < t.length
      · rw [if_pos hlt, if_neg (by simp), if_pos (show m + 1 < t.length + 1 by omega)]; omega
      · rw [if_neg hlt, if_neg (show ¬ m + 1 < t.length + 1 by omega)]; rfl

def ixI (zs : List Int) : Int := if zs.findIdx (· == 10) < zs.length then ((zs.findIdx (· == 10) : Nat) : Int) else -1

set_option maxHeartbeats 400000 in
theorem indexByte_any (A : Option Addr) (n c : Nat) (zs : List Int) (w : World) (hl : zs.length = n) (hb : Byte zs) (hr : RdB w A zs) (v : Int) (hv : ixI zs = v) :
    Calls Try.prog 50 #[.slice A n c, .int .u8 10] w fun e w' => e = .returned (.int .i64 v) ∧ w = w' := by
  have HV := Lib.hid hv
  clear hv
  by_cases h0 : zs = []
  · subst h0
    obtain rfl : n = 0 := by simpa using hl.symm
    have hv : v = -1 := by rw [← HV.out]; rfl
    subst hv
    cases A with
    | none =>
      clear hr hl
      go_enter Try.func50, Try.ntmps50
      go_wp2
      rw [run_callFunc_extern Try.func60 (by kernel_rfl) (by kernel_rfl) (by kernel_rfl) (e := Extern.BytealgIndexByte.indexByte) (by kernel_rfl), Lib.run_indexByteNil w 0 c 10]
      simp only [Result.andThen]
      rw [Oper.upon_value]
      go_wp2
      go_ret
      exact ⟨rfl, rfl⟩
    | some ad =>
      have hrun : (Extern.BytealgIndexByte.indexByte #[.slice (some ad) 0 c, .int .u8 10]).run Try.prog w = .ok (.int .i64 (-1)) w := by
        change Sem.run Try.prog (do
          let b ← Extern.Bytes.bytesOf (.slice (some ad) 0 c)
          let c ← Extern.Bytes.asByte (.int .u8 10)
          match (List.range b.size).find? fun i => b[i]! == c with
          | some i => pure (goInt i)
          | none => pure (goInt (-1))) w = _
        simp only [Extern.Bytes.bytesOf, Extern.Bytes.loadBytes, Extern.Bytes.asByte, Sem.run_bind, Sem.run_pure, Result.andThen]
        rfl
      clear hr hl
      go_enter Try.func50, Try.ntmps50
      go_wp2
      rw [run_callFunc_extern Try.func60 (by kernel_rfl) (by kernel_rfl) (by kernel_rfl) (e := Extern.BytealgIndexByte.indexByte) (by kernel_rfl), hrun]
      simp only [Result.andThen]
      rw [Oper.upon_value]
      go_wp2
      go_ret
      exact ⟨rfl, rfl⟩
  · obtain ⟨b, off, rfl, hc⟩ := hr.addr (List.length_pos_iff.2 h0)
    have hrun := Lib.run_indexByteSlice (P := Try.prog) w b off n c zs hl (fun i hi => hc i (by omega)) 10
    rw [ix_eq zs hb] at hrun
    have hv : (if zs.findIdx (· == 10) < zs.length then ((zs.findIdx (· == 10) : Nat) : Int) else -1) = v := HV.out
    rw [hv] at hrun
    clear hv hc hr hl
    go_enter Try.func50, Try.ntmps50
    go_wp2
    rw [run_callFunc_extern Try.func60 (by kernel_rfl) (by kernel_rfl) (by kernel_rfl) (e := Extern.BytealgIndexByte.indexByte) (by kernel_rfl), hrun]
    simp only [Result.andThen]
    rw [Oper.upon_value]
    go_wp2
    go_ret
    exact ⟨rfl, rfl⟩

theorem mrk_take (zs : List Int) (h : 3 ≤ zs.length) : (zs.take 3 == [239, 187, 191]) = mrk zs := by
  match zs, h with
  | a :: b :: c :: t, _ =>
    unfold mrk
    simp only [List.take_succ_cons, List.take_zero, List.length_cons, List.getD_cons_zero, List.getD_cons_succ]
    rw [decide_eq_true (show 3 ≤ t.length + 1 + 1 + 1 by omega)]
    apply bool_iff
    simp [and_assoc]

set_option maxHeartbeats 400000 in
theorem begin_any (A : Option Addr) (n c : Nat) (zs : List Int) (w : World) (hl : zs.length = n) (hnc : n ≤ c) (hm : c ≤ 9223372036854775807) (hb : Byte zs) (hr : RdB w A zs) (v : Nat) (hv : bgn zs = v) :
    Calls Try.prog 31 #[.slice A n c] w fun e w' => e = .returned (.int .i64 (v : Int)) ∧ Below w.heap.size w w' := by
  have kc := fun (w : World) (C : Array Value) (n c : Nat) => Lib.run_convert_bytes_const (P := Try.prog) w 24 5 C n c Try.underlying24 Try.underlying5
  have b1 : Byte [239, 187, 191] := by intro z hz; simp at hz; omega
  have HR := Lib.hid hr
  have HB := Lib.hid hb
  have HV := Lib.hid hv
  have HL := Lib.hid hl
  have HB1 := Lib.hid b1
  clear hr hb hv hl b1
  by_cases h3 : 3 ≤ n
  · have d3 : (3 : Int) ≤ (n : Int) := by omega
    obtain ⟨b, off, rfl, _⟩ := HR.out.addr (by rw [HL.out]; omega)
    have htk := mrk_take zs (by rw [HL.out]; exact h3)
    have HT := Lib.hid htk
    clear htk
    have pref : ∀ (g : Nat) (hg : g = w.heap.size), Calls Try.prog 49 #[.slice (some ⟨b, off, none⟩) n c, .slice (some ⟨g, 0, none⟩) 3 3] (w.alloc (.cells #[.int .u8 239, .int .u8 187, .int .u8 191] 5 (3, 4))) fun e w' => e = .returned (.bool (mrk zs)) ∧ (w.alloc (.cells #[.int .u8 239, .int .u8 187, .int .u8 191] 5 (3, 4))) = w' := by
      intro g hg
      have hbel : Below w.heap.size w (w.alloc (.cells #[.int .u8 239, .int .u8 187, .int .u8 191] 5 (3, 4))) := (Below.refl _ _).alloc (Nat.le_refl _) _
      have e := equal_any (some ⟨b, off, none⟩) (some ⟨g, 0, none⟩) 3 c 3 3 (zs.take 3) [239, 187, 191] _ (by rw [List.length_take, HL.out]; omega) rfl ((HR.out.below hbel).take 3) (RdB.new hg three_at) (HB.out.take 3) HB1.out (mrk zs) HT.out
      generalize w.alloc (.cells #[.int .u8 239, .int .u8 187, .int .u8 191] 5 (3, 4)) = W at *
      have E := Lib.hid e
      clear e hbel kc hg
      generalize mrk zs = v at *
      go_enter Try.func49, Try.ntmps49
      go_wp2_with (go_at_call 59; refine E.out.mono ?_; rintro e w' ⟨rfl, rfl⟩)
      go_ret
      exact ⟨rfl, rfl⟩
    have PREF := Lib.hid pref
    clear pref
    go_enter Try.func31, Try.ntmps31
    go_wp2_with fail
    refine (PREF.out _ rfl).mono ?_
    rintro e w' ⟨rfl, rfl⟩
    have hv := HV.out
    unfold bgn at hv
    cases hmk : mrk zs
    · rw [hmk] at hv; simp at hv; subst hv
      go_wp2
      go_ret
      exact ⟨rfl, (Below.refl _ _).alloc (Nat.le_refl _) _⟩
    · rw [hmk] at hv; simp at hv; subst hv
      go_wp2
      go_ret
      exact ⟨rfl, (Below.refl _ _).alloc (Nat.le_refl _) _⟩
  · have d3 : decide ((3 : Int) ≤ (n : Int)) = false := decide_eq_false (by omega)
    have hv : v = 0 := by
      rw [← HV.out]; unfold bgn mrk; rw [decide_eq_false (by rw [HL.out]; exact h3)]; rfl
    subst hv
    have pref : ∀ (W : World) (B : Option Addr), Calls Try.prog 49 #[.slice A n c, .slice B 3 3] W fun e w' => e = .returned (.bool false) ∧ W = w' := by
      intro W B
      clear kc
      go_enter Try.func49, Try.ntmps49
      go_wp2
      go_ret
      exact ⟨rfl, rfl⟩
    have PREF := Lib.hid pref
    clear pref
    go_enter Try.func31, Try.ntmps31
    go_wp2_with (go_at_call 49; refine (PREF.out _ _).mono ?_; rintro e w' ⟨rfl, rfl⟩)
    go_ret
    exact ⟨rfl, (Below.refl _ _).alloc (Nat.le_refl _) _⟩
end Go.Proofs.Ytodnfdkcmhiljaa
