/- The helps of the statements of layer 3: the document's example, splices of raw ones, copies and comparisons. -/
import Derived.Test.YtegamojidckmcaaSpMore
import Derived.Laws.StructEq
namespace Go.Proofs.Ytegamojidckmcaa
open Go.RowKit
set_option linter.unusedVariables false

set_option maxHeartbeats 1000000 in
theorem sameB_any (A B : Option Addr) (n c d : Nat) (zs : List Int) (w : World) (hl : zs.length = n) (hn : n ≤ 1000000000) (hnc : n ≤ c) (hnd : n ≤ d) (ha : RdB w A zs) (hb : RdB w B zs) :
    Calls Try.prog 19 #[.slice A n c, .slice B n d] w fun e w' => e = .returned (.bool true) ∧ Below w.heap.size w w' := by
  subst hl
  have HA := Lib.hid ha
  have HB := Lib.hid hb
  clear ha hb
  go_enter Try.func19, Try.ntmps19
  go_wp2
  go_loopw [5] (fun i W => ∃ k : Nat, k ≤ zs.length ∧ i = .int .i64 (k : Int) ∧ Hid (Below w.heap.size w W)) (fun i _ => zs.length - (intOf i).toNat)
  case atStart => exact ⟨0, by omega, rfl, Below.refl _ _⟩
  case round =>
    obtain ⟨k, hk, rfl, HK⟩ := hrel
    by_cases hlt : k < zs.length
    · obtain ⟨b, off, rfl, hc⟩ := (HA.out.below HK.out).addr (by omega)
      obtain ⟨b', off', rfl, hc'⟩ := (HB.out.below HK.out).addr (by omega)
      have c1 := hc k hlt
      have c2 := hc' k hlt
      generalize zs.getD k 0 = x at *
      have d1 : (k : Int) < (zs.length : Int) := by omega
      clear hc hc'
      go_wp2_with fail
      go_quiet (fail)
      go_wp2
      go_roundw
      case rel => exact ⟨k + 1, by omega, by go_num, below_draws HK.out _⟩
      case measure => simp [intOf]; omega
    · go_wp2
      go_ret
      exact ⟨rfl, HK.out⟩

theorem splice_neq (x : Sp) (w : World) : (binOp .neq 28 (.agg #[.int .i64 x.f, .int .i64 x.t, .string x.s]) (.agg #[.int .i64 x.f, .int .i64 x.t, .string x.s])).run Try.prog w = .ok (.bool false) w := by
  have h1 : Try.prog.underlying 28 = some (.struct (Try.prog.fieldsOf 28)) := by kernel_rfl
  have h2 : Try.prog.stoodInHeld 28 = false := by kernel_rfl
  rw [run_neq_struct, run_equalIn_agg _ _ _ _ _ h1 h2]
  simp [go_sem, Try.underlying28]
theorem splice_guard : Try.prog.eqGuardType Try.prog.depth 28 = false := by kernel_rfl
set_option maxHeartbeats 1000000 in
theorem sameS_any (A B : Option Addr) (n c d : Nat) (l : List Sp) (w : World) (hl : l.length = n) (hn : n ≤ 1000000000) (hnc : n ≤ c) (hnd : n ≤ d) (ha : RdS w A l) (hb : RdS w B l) :
    Calls Try.prog 21 #[.slice A n c, .slice B n d] w fun e w' => e = .returned (.bool true) ∧ Below w.heap.size w w' := by
  subst hl
  have HA := Lib.hid ha
  have HB := Lib.hid hb
  clear ha hb
  go_enter Try.func21, Try.ntmps21
  go_wp2
  go_loopw [5] (fun i W => ∃ k : Nat, k ≤ l.length ∧ i = .int .i64 (k : Int) ∧ Hid (Below w.heap.size w W)) (fun i _ => l.length - (intOf i).toNat)
  case atStart => exact ⟨0, by omega, rfl, Below.refl _ _⟩
  case round =>
    obtain ⟨k, hk, rfl, HK⟩ := hrel
    by_cases hlt : k < l.length
    · obtain ⟨b, off, rfl, _, hc⟩ := (HA.out.below HK.out).addr (by omega)
      obtain ⟨b', off', rfl, _, hc'⟩ := (HB.out.below HK.out).addr (by omega)
      obtain ⟨c0, c1, c2⟩ := hc k hlt
      obtain ⟨d0, d1, d2⟩ := hc' k hlt
      generalize spAt l k = x at *
      have dk : (k : Int) < (l.length : Int) := by omega
      have hneq := splice_neq x
      have hgd := splice_guard
      clear hc hc'
      go_wp2_with fail
      go_quiet (fail)
      go_wp2
      go_roundw
      case rel => exact ⟨k + 1, by omega, by go_num, below_draws HK.out _⟩
      case measure => simp [intOf]; omega
    · go_wp2
      go_ret
      exact ⟨rfl, HK.out⟩

set_option maxHeartbeats 1000000 in
theorem copyS_any (A : Option Addr) (n c : Nat) (l : List Sp) (w : World) (hl : l.length = n) (hn : n ≤ 1000000) (hr : RdS w A l) :
    Calls Try.prog 16 #[.slice A n c] w (NewS w l) := by
  obtain ⟨v', w', hrun, ho, hg, hv⟩ := run_append_rows Try.underlying29 splice_info rfl (by omega) (by omega) w w.heap.size _ 0 [] (own_nil w _ _ _) (Nat.le_refl _) A n c (spsC l) (by rw [spsC_len, hl]) hr (spsC_one · l) (by omega)
  obtain ⟨A', cap', rfl, h1, h2, h3⟩ := own_form ho
  have HO := Lib.hid ho
  have HG := Lib.hid hg
  have HRUN := Lib.hid hrun
  have H3 := Lib.hid h3
  clear ho hg hv hr hrun h3
  go_enter Try.func16, Try.ntmps16
  go_wp2_with (at_builtin; refine wpList_append_known rfl _ (.tmp 3) 29 rfl (.slice none 0 0) (.slice A n c) _ _ rfl rfl HRUN.out ?_)
  go_ret
  have e0 : 0 + n = n := by omega
  rw [e0] at h1
  have ho := HO.out
  simp only [List.nil_append, e0] at ho
  refine ⟨A', n, cap', by simp, hl, h1, h2, H3.out, RdC.own ho, ?_⟩
  exact (Below.refl _ _).grown HG.out (Nat.le_refl _) (by simp [Value.ownBlock])

theorem RdS.one {W : World} {x : Sp} {T : TypeId} : RdS (W.alloc (.cells #[.int .i64 x.f, .int .i64 x.t, .string x.s] T)) (some ⟨W.heap.size, 0, none⟩) [x] := by
  refine RdC.new rfl fun k v hv => ?_
  match k with
  | 0 => simpa [spsC, spC] using hv
  | 1 => simpa [spsC, spC] using hv
  | 2 => simpa [spsC, spC] using hv
  | k + 3 => simp [spsC, spC] at hv
set_option maxHeartbeats 2000000 in
theorem wakes_any (w : World) : Calls Try.prog 12 #[] w fun e w' => e = .returned (.bool true) ∧ Below w.heap.size w w' := by
  have kc := fun (C : Array Value) (n c : Nat) => Lib.run_convert_bytes_const (P := Try.prog) w 23 5 C n c Try.underlying23 Try.underlying5
  go_enter Try.func12, Try.ntmps12
  go_wp2_with fail
  clear kc
  have hb1 : Below w.heap.size w (w.alloc (.cells #[.int .u8 97, .int .u8 98, .int .u8 99] 5 (3, 4))) := (Below.refl _ _).alloc (Nat.le_refl _) _
  have hrb : RdB (w.alloc (.cells #[.int .u8 97, .int .u8 98, .int .u8 99] 5 (3, 4))) (some ⟨w.heap.size, 0, none⟩) [97, 98, 99] := RdB.new rfl fun k z hz => by
    match k with
    | 0 => simpa using hz
    | 1 => simpa using hz
    | 2 => simpa using hz
    | k + 3 => simp at hz
  have hrs := RdS.one (W := w.alloc (.cells #[.int .u8 97, .int .u8 98, .int .u8 99] 5 (3, 4))) (x := ⟨1, 2, ⟨#[120]⟩⟩) (T := 28)
  have hbs := fun o => (Below.refl (w.alloc (.cells #[.int .u8 97, .int .u8 98, .int .u8 99] 5 (3, 4))).heap.size (w.alloc (.cells #[.int .u8 97, .int .u8 98, .int .u8 99] 5 (3, 4)))).alloc (Nat.le_refl _) o
  have hb2 := fun o => below_step hb1 (hbs o)
  refine (do_good (some ⟨w.heap.size, 0, none⟩) 3 3 [97, 98, 99] (some ⟨w.heap.size + 1, 0, none⟩) 1 1 [⟨1, 2, ⟨#[120]⟩⟩] _ rfl (by omega) (by omega) (fun h => by cases h) (hrb.below (hbs _)) (by omega) rfl (by omega) (by omega) ?_ (by simpa using hrs) (by omega) ?_ (by decide) (by decide)).mono ?_
  · intro x hx; simp at hx; subst hx; exact ⟨by decide, by decide, by decide, by decide, by decide⟩
  · intro x hx; simp at hx; subst hx; show (1 : Nat) ≤ 1000000000; omega
  · rintro e W ⟨A, n, cap, rfl, h1, h2, h3, h4, h5, h6⟩
    have hd : doF [97, 98, 99] 0 [⟨1, 2, ⟨#[120]⟩⟩] = [97, 120, 99] := by decide
    rw [hd] at h1 h5
    have hrun := run_string_rd W A n cap [97, 120, 99] h1 h5
    have hs : strOfNums [97, 120, 99] = ⟨#[97, 120, 99]⟩ := by decide
    rw [hs] at hrun
    have HB := Lib.hid (below_step (hb2 _) h6)
    clear hb1 hrb hrs hbs hb2 h4 h5 h6 hd hs h1
    go_wp2
    go_ret
    exact ⟨rfl, HB.out⟩
end Go.Proofs.Ytegamojidckmcaa
