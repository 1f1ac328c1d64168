/- The law's own text: of a few pieces, or any. -/
import Derived.Test.YtpmikhhnnjhiaaaPrRTake
import Derived.Test.YtpmikhhnnjhiaaaInts
import Derived.Test.YtpmikhhnnjhiaaaKeep
namespace Go.Proofs.Ytpmikhhnnjhiaaa
open Go.RowKit
set_option linter.unusedVariables false

def signL : List ByteArray := [⟨#[38, 97]⟩, ⟨#[38, 98, 45, 49]⟩, ⟨#[33]⟩, ⟨#[33, 120]⟩, ⟨#[33, 33, 115, 116, 114]⟩, ⟨#[33, 33]⟩, ⟨#[38]⟩, ⟨#[32]⟩, ⟨#[32]⟩, ⟨#[32, 32]⟩, ⟨#[120]⟩, ⟨#[42, 97]⟩, ⟨#[42]⟩, ⟨#[44]⟩, ⟨#[38, 97, 33]⟩, ⟨#[33, 97, 38]⟩]
theorem signL_at : ∀ k, k < 16 → ∃ d : ByteArray, signL[k]? = some d ∧ d.size ≤ 5 := by
  intro k hk
  have hl : signL.length = 16 := rfl
  have hs : ∀ d ∈ signL, d.size ≤ 5 := by
    intro d hd
    have : signL.all (fun d => decide (d.size ≤ 5)) = true := by decide +kernel
    exact of_decide_eq_true (List.all_eq_true.1 this d hd)
  exact ⟨signL[k]'(by omega), List.getElem?_eq_getElem (by omega), hs _ (List.getElem_mem _)⟩
def SmallP (w : World) (e : Ending) (w' : World) : Prop := ∃ t : ByteArray, t.size ≤ 40 ∧ e = .returned (.string t) ∧ Below w.heap.size w w'
set_option maxHeartbeats 2000000 in
theorem txt_any (s : ByteArray) (a : Option Addr) (len cap : Nat) (zs : List Int) (raw : Bool) (w : World) (hs : s.size ≤ maxLen)
    (h : (a = none ∧ len = 0 ∧ cap = 0 ∧ zs = []) ∨ ∃ x, a = some x ∧ len ≤ cap ∧ cap ≤ maxLen ∧ zs.length = cap ∧ (∀ i, i < zs.length → w.cell? (x.add i) = some (.int .i64 (zs.getD i 0))) ∧ ∀ n ∈ zs, (Lit.int .i64 n).wf = true) :
    Calls Try.prog 12 #[.string s, .slice a len cap, .bool raw] w (SmallP w) := by
  obtain ⟨hlc, hcm, hrd⟩ := ints_rd h
  clear h
  cases raw with
  | true =>
    clear hrd
    go_enter Try.func12, Try.ntmps12
    go_wp2_with fail
    refine (text_any s 40 w (by omega) hs).mono ?_
    rintro e w1 ⟨t, ht, hts, rfl, rfl⟩
    clear ht
    go_wp2_with fail
    go_ret
    exact ⟨t, by omega, rfl, Below.refl _ _⟩
  | false =>
    obtain ⟨W, hW⟩ : ∃ W, W = w.alloc (.cells (signL.map Value.string).toArray 9) := ⟨_, rfl⟩
    have HB : Hid (Below w.heap.size w W) := by rw [hW]; exact (Below.refl _ _).alloc (Nat.le_refl _) _
    have HC : Hid (∀ k d, signL[k]? = some d → W.cell? ⟨w.heap.size, k, none⟩ = some (.string d)) := by
      intro k d hd
      rw [hW, World.cell?_alloc_mark]
      simp [hd]
    have HRD := Lib.hid hrd
    have HW := Lib.hid hW
    clear hrd hW hs
    go_enter Try.func12, Try.ntmps12
    go_wp2_with fail
    go_loopw [8, 9] (fun u v V => ∃ (q : Nat) (t : ByteArray), q ≤ 7 ∧ u = .string t ∧ v = .int .i64 (q : Int) ∧ V = W ∧ t.size ≤ 5 * q) (fun _ v _ => 7 - (intOf v).toNat)
    case atStart => exact ⟨0, ⟨#[]⟩, by omega, rfl, rfl, HW.out.symm, by decide⟩
    case round =>
      obtain ⟨q, t, hq, rfl, rfl, rfl, ht⟩ := hrel
      by_cases hlen : q < len
      · have d1 : (q : Int) < (len : Int) := by omega
        by_cases h7 : q < 7
        · have d2 : (q : Int) < 7 := by omega
          obtain ⟨b, off, rfl, hcl⟩ := HRD.out (by omega)
          obtain ⟨z, hz, hcz⟩ := hcl q hlen
          have hcz' := cell_keep HB.out hcz
          clear hcl hcz
          go_wp2_with fail
          refine (within_nat z 16 wr (by omega) (by omega) hz).mono ?_
          rintro e w1 ⟨k, hk, rfl, rfl⟩
          obtain ⟨d, hd, hd5⟩ := signL_at k hk
          have hcd := HC.out k d hd
          clear hd
          go_wp2_with fail
          go_roundw
          case rel => exact ⟨q + 1, t ++ d, by omega, by trivial, by go_num, by trivial, by rw [ByteArray.size_append]; omega⟩
          case measure => simp [intOf]; omega
        · have d2 : decide ((q : Int) < 7) = false := decide_eq_false (by omega)
          go_wp2_with fail
          go_ret
          exact ⟨t, by omega, rfl, HB.out⟩
      · have d1 : decide ((q : Int) < (len : Int)) = false := decide_eq_false (by omega)
        go_wp2_with fail
        go_ret
        exact ⟨t, by omega, rfl, HB.out⟩
end Go.Proofs.Ytpmikhhnnjhiaaa
