/- The contracts of package scholiumkeep's plain helps: Within, Text, Copy and Cut of bytes, Lend, Intact. -/
import Derived.Test.YtjdmbldbbohdbaaBase
namespace Go.Proofs.Ytjdmbldbbohdbaa
open Go.RowKit
set_option linter.unusedVariables false

theorem tmod_pos (v n : Int) (hn : 1 ≤ n) : (v.tmod n < 0 → v.tmod n + n = v % n) ∧ (0 ≤ v.tmod n → v.tmod n = v % n) := by
  have h := Int.tmod_eq_emod (a := v) (b := n)
  have h1 := Int.emod_nonneg v (show n ≠ 0 by omega)
  have h2 := Int.emod_lt_of_pos v (show 0 < n by omega)
  rw [h]
  split <;> omega

set_option maxHeartbeats 400000 in
theorem within_any (v n : Int) (w : World) (h1 : 1 ≤ n) (h2 : n ≤ 2000000000) (hv : -9223372036854775808 ≤ v ∧ v ≤ 9223372036854775807) :
    Calls Try.prog 7 #[.int .i64 v, .int .i64 n] w fun e w' => e = .returned (.int .i64 (v % n)) ∧ w = w' := by
  have H := Lib.hid (tmod_pos v n h1)
  have hm1 := Int.emod_nonneg v (show n ≠ 0 by omega)
  have hm2 := Int.emod_lt_of_pos v (show 0 < n by omega)
  go_enter Try.func7, Try.ntmps7
  go_wp2
  · go_ret
    have h := H.out.1 (by assumption)
    refine ⟨ret_int ?_, rfl⟩
    rw [h, IntWalk.wrap64_in _ (by omega)]
  · go_ret
    exact ⟨ret_int (H.out.2 (by assumption)), rfl⟩
/-- Within, as a natural number. -/
def WithinP (n : Nat) (w : World) (e : Ending) (w' : World) : Prop := ∃ k : Nat, k < n ∧ e = .returned (.int .i64 (k : Int)) ∧ w = w'
theorem within_nat (v : Int) (n : Nat) (w : World) (h1 : 1 ≤ n) (h2 : n ≤ 2000000000) (hv : -9223372036854775808 ≤ v ∧ v ≤ 9223372036854775807) :
    Calls Try.prog 7 #[.int .i64 v, .int .i64 (n : Int)] w (WithinP n w) := by
  refine (within_any v n w (by omega) (by omega) hv).mono ?_
  rintro e w' ⟨rfl, rfl⟩
  have hm1 := Int.emod_nonneg v (show (n : Int) ≠ 0 by omega)
  have hm2 := Int.emod_lt_of_pos v (show (0 : Int) < n by omega)
  exact ⟨(v % n).toNat, by omega, ret_int (by omega), rfl⟩

/-- A text's beginning, at most n bytes. -/
def TextP (n : Nat) (s : ByteArray) (w : World) (e : Ending) (w' : World) : Prop := ∃ t : ByteArray, byt t = (byt s).take n ∧ t.size ≤ n ∧ e = .returned (.string t) ∧ w = w'
set_option maxHeartbeats 400000 in
theorem text_any (s : ByteArray) (n : Nat) (w : World) (hn : n ≤ 1000000) (hs : s.size ≤ maxLen) :
    Calls Try.prog 8 #[.string s, .int .i64 n] w (TextP n s w) := by
  unfold maxLen at hs
  go_enter Try.func8, Try.ntmps8
  go_wp2
  · go_ret
    exact ⟨s.extract 0 n, by rw [byt_extract]; simp, by simp [ByteArray.size_extract]; omega, rfl, rfl⟩
  · go_ret
    exact ⟨s, by rw [List.take_of_length_le (by rw [byt_len]; omega)], by omega, rfl, rfl⟩



theorem run_make_lend (n : Nat) (h : n ≤ 70000) (w : World) :
    (Instr.makeSlice 24 (.int .i64 (n : Int)) (.int .i64 ((n : Int) + 3))).run Try.prog w = .ok (.slice (some ⟨w.heap.size, 0, none⟩) n (n + 3)) (w.alloc (.cells (cellsB (List.replicate (n + 3) 0)) 5)) := by
  obtain ⟨i, hi, hz, h1, h2⟩ := info_parts byte_info
  have hb : (i.bytes : Int) * ((n : Int) + 3) ≤ 281474976710656 := by rw [h2]; omega
  have hr := run_make (P := Try.prog) w 24 5 i _ Try.underlying24 hi hz .i64 .i64 n ((n : Int) + 3) (by omega) (by omega) hb (by omega)
  rw [show ((n : Int) + 3).toNat = n + 3 by omega, Int.toNat_natCast] at hr
  rw [hr]
  have e : madeCells (Value.int IntKind.u8 0).cells ((n + 3) * i.size) = cellsB (List.replicate (n + 3) 0) := by
    rw [h1, Nat.mul_one]
    apply Array.toList_inj.1
    have : (Value.int IntKind.u8 0).cells = #[.int .u8 0] := rfl
    rw [this, toList_madeCells_one]
    simp [cellsB]
  rw [e]
def lnd (zs : List Int) (k : Nat) : List Int := zs ++ (List.replicate k 85 ++ List.replicate (3 - k) 0)
theorem lnd_len (zs : List Int) (k : Nat) (h : k ≤ 3) : (lnd zs k).length = zs.length + 3 := by simp [lnd]; omega
theorem lnd_set (zs : List Int) (k : Nat) (h : k < 3) : (lnd zs k).set (zs.length + k) 85 = lnd zs (k + 1) := by
  unfold lnd
  rw [List.set_append_right _ _ (by omega), show zs.length + k - zs.length = k by omega]
  match k, h with
  | 0, _ => rfl
  | 1, _ => rfl
  | 2, _ => rfl
def Lent (w : World) (zs : List Int) (e : Ending) (w' : World) : Prop :=
  e = .returned (.slice (some ⟨w.heap.size, 0, none⟩) zs.length (zs.length + 3)) ∧ OwnB w' w.heap.size (lnd zs 3) ∧ Below w.heap.size w w'
theorem lnd_rd {w : World} {g : Nat} {zs : List Int} (h : OwnB w g (lnd zs 3)) : RdB w (some ⟨g, 0, none⟩) zs := by
  intro k z hz
  refine ⟨g, 0, rfl, ?_⟩
  rw [Nat.zero_add]
  refine h.at_ k z ?_
  unfold lnd; rw [List.getElem?_append_left (List.getElem?_eq_some_iff.1 hz).1]; exact hz
theorem run_copy_lend (A : Option Addr) (c : Nat) (zs : List Int) (w : World) (hr : RdB w A zs) : ∃ W,
    (Builtin.copy_ #[24, 24] 3 #[.slice (some ⟨w.heap.size, 0, none⟩) zs.length (zs.length + 3), .slice A zs.length c]).run Try.prog (w.alloc (.cells (cellsB (List.replicate (zs.length + 3) 0)) 5)) = .ok (goInt zs.length) W ∧
    OwnB W w.heap.size (lnd zs 0) ∧ Below w.heap.size w W := by
  have hb0 : Below w.heap.size w (w.alloc (.cells (cellsB (List.replicate (zs.length + 3) 0)) 5)) := (Below.refl _ _).alloc (Nat.le_refl _) _
  have hh := heap_alloc_new w (.cells (cellsB (List.replicate (zs.length + 3) 0)) 5)
  by_cases h0 : zs = []
  · subst h0
    exact ⟨_, run_copy_none _ 24 24 3 5 _ A 0 (0 + 3) 0 c Try.underlying24 (by kernel_rfl) rfl, OwnB.new _ _, hb0⟩
  · have hp : 0 < zs.length := List.length_pos_iff.2 h0
    obtain ⟨b, off, rfl, hc⟩ := hr.addr hp
    have hrun := run_copy_row (P := Try.prog) (w.alloc (.cells (cellsB (List.replicate (zs.length + 3) 0)) 5)) 24 24 3 5 w.heap.size 0 zs.length (zs.length + 3) ⟨b, off, none⟩ zs.length c _ 5 (zs.map (Value.int .u8)) Try.underlying24 (by kernel_rfl) hh (by simp) (by
      intro j v hj
      rw [List.getElem?_map] at hj
      cases hy : zs[j]? with
      | none => rw [hy] at hj; simp at hj
      | some y =>
        rw [hy] at hj
        simp at hj
        subst hj
        have hjl := (List.getElem?_eq_some_iff.1 hy).1
        have := hc j hjl
        rw [add_plain, World.cell?_alloc_lt w _ _ (World.block_lt_of_cell? _ _ this), this]
        simp [List.getD, hy]) (by simp [cellsB]) (by intro v hv; simp at hv; obtain ⟨y, _, rfl⟩ := hv; rfl)
    rw [List.length_map] at hrun
    refine ⟨_, hrun, ?_, below_setRow hb0 (Nat.le_refl _) _⟩
    have := setRow_heap (w.alloc (.cells (cellsB (List.replicate (zs.length + 3) 0)) 5)) w.heap.size _ (List.take 0 (cellsB (List.replicate (zs.length + 3) 0)).toList ++ zs.map (Value.int .u8) ++ List.drop (0 + zs.length) (cellsB (List.replicate (zs.length + 3) 0)).toList).toArray 5 _ hh
    unfold OwnB
    rw [this]
    congr 2
    simp [cellsB, lnd]

set_option maxHeartbeats 1000000 in
theorem lend_any (A : Option Addr) (n c : Nat) (zs : List Int) (w : World) (hl : zs.length = n) (hn : n ≤ 60000) (hr : RdB w A zs) :
    Calls Try.prog 11 #[.slice A n c] w (Lent w zs) := by
  subst hl
  have hmk := fun W => run_make_lend zs.length (by omega) W
  obtain ⟨W, hcp, hown, hbel⟩ := run_copy_lend A c zs w hr
  have HOWN := Lib.hid (And.intro hown hbel)
  clear hown hbel hr
  go_enter Try.func11, Try.ntmps11
  go_wp2
  clear hmk hcp
  go_loopw [5] (fun i V => ∃ k : Nat, k ≤ 3 ∧ i = .int .i64 ((zs.length : Int) + k) ∧ Hid (OwnB V w.heap.size (lnd zs k) ∧ Below w.heap.size w V)) (fun i _ => zs.length + 3 - (intOf i).toNat)
  case atStart => exact ⟨0, by omega, by simp, HOWN⟩
  case round =>
    obtain ⟨k, hk, rfl, HK⟩ := hrel
    by_cases hlt : k < 3
    · have hcz := HK.out.1.at_ (zs.length + k) _ (getD_at (by rw [lnd_len zs k hk]; omega))
      have hfz := HK.out.1.frozen (zs.length + k)
      have d : (zs.length : Int) + k < (zs.length : Int) + 3 := by omega
      go_wp2
      go_roundw
      case rel =>
        refine ⟨k + 1, by omega, by go_num, ?_, HK.out.2.setCell (Nat.le_refl _) _⟩
        rw [← lnd_set zs k hlt]
        exact HK.out.1.set _ _
      case measure => simp [intOf]; omega
    · obtain rfl : k = 3 := by omega
      go_wp2
      go_ret
      exact ⟨rfl, HK.out.1, HK.out.2⟩
theorem lnd_at (zs : List Int) (k : Nat) : (k < zs.length → (lnd zs 3)[k]? = some (zs.getD k 0)) ∧ (zs.length ≤ k → k < zs.length + 3 → (lnd zs 3)[k]? = some 85) := by
  constructor
  · intro h
    unfold lnd; rw [List.getElem?_append_left h]; exact getD_at h
  · intro h1 h2
    unfold lnd; rw [List.getElem?_append_right h1]
    have : k - zs.length = 0 ∨ k - zs.length = 1 ∨ k - zs.length = 2 := by omega
    rcases this with e | e | e <;> rw [e] <;> rfl

set_option maxHeartbeats 1000000 in
theorem intact_any (A : Option Addr) (n c g : Nat) (zs : List Int) (w : World) (hl : zs.length = n) (hn : n ≤ 60000) (hr : RdB w A zs) (ho : OwnB w g (lnd zs 3)) :
    Calls Try.prog 15 #[.slice (some ⟨g, 0, none⟩) n (n + 3), .slice A n c] w fun e w' => e = .returned (.bool true) ∧ Below w.heap.size w w' := by
  subst hl
  have H0 : Hid (RdB w A zs ∧ OwnB w g (lnd zs 3) ∧ Below w.heap.size w w) := ⟨hr, ho, Below.refl _ _⟩
  clear hr ho
  go_enter Try.func15, Try.ntmps15
  go_wp2
  go_loopw [27] (fun i W => ∃ k : Nat, k ≤ zs.length + 3 ∧ i = .int .i64 k ∧ Hid (RdB W A zs ∧ OwnB W g (lnd zs 3) ∧ Below w.heap.size w W)) (fun i _ => zs.length + 3 - (intOf i).toNat)
  case atStart => exact ⟨0, by omega, rfl, H0⟩
  case round =>
    obtain ⟨k, hk, rfl, HK⟩ := hrel
    by_cases hlt : k < zs.length + 3
    · by_cases hz : k < zs.length
      · obtain ⟨b, off, rfl, hc⟩ := HK.out.1.addr (by omega)
        have c1 := hc k hz
        have c2 := HK.out.2.1.at_ k _ ((lnd_at zs k).1 hz)
        generalize zs.getD k 0 = x at *
        have d1 : (k : Int) < (zs.length : Int) := by omega
        have d2 : (k : Int) < (zs.length : Int) + 3 := by omega
        have d3 : decide (zs.length ≤ k) = false := decide_eq_false (by omega)
        clear hc
        go_wp2_with fail
        go_quiet (fail)
        go_wp2
        go_roundw
        case rel => exact ⟨k + 1, by omega, by go_num, HK.out.1, HK.out.2.1, below_draws HK.out.2.2 _⟩
        case measure => simp [intOf]; omega
      · have c2 := HK.out.2.1.at_ k _ ((lnd_at zs k).2 (by omega) hlt)
        have d1 : decide ((k : Int) < (zs.length : Int)) = false := decide_eq_false (by omega)
        have d2 : (k : Int) < (zs.length : Int) + 3 := by omega
        have d3 : (zs.length : Int) ≤ (k : Int) := by omega
        go_wp2_with fail
        go_quiet (fail)
        go_wp2
        go_roundw
        case rel => exact ⟨k + 1, by omega, by go_num, HK.out.1, HK.out.2.1, below_draws HK.out.2.2 _⟩
        case measure => simp [intOf]; omega
    · go_wp2
      go_ret
      exact ⟨rfl, HK.out.2.2⟩
end Go.Proofs.Ytjdmbldbbohdbaa
