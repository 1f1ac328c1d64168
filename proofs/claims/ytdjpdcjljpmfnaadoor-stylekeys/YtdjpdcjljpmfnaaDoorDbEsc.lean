/- The table 'shorts' in memory, and double.escaped. -/
import Derived.Test.YtdjpdcjljpmfnaaDoorDbLeaf
import Derived.Laws.Rows
namespace Go.Proofs.YtdjpdcjljpmfnaaDoor
open Go.RowKit
set_option linter.unusedVariables false
set_option maxRecDepth 100000

def shC : Array Value := (shL.flatMap fun x => [Value.int .u8 x.1, .int .i32 x.2]).toArray
/-- The package variable holds its table. -/
def Shorts (w : World) : Prop := ∃ t fr, w.heap[0]? = some (.cells shC t fr)
theorem Shorts.below {w w' : World} (h : Shorts w) (hb : Below w.heap.size w w') : Shorts w' := by
  obtain ⟨t, fr, hh⟩ := h
  have hlt : 0 < w.heap.size := by
    rcases Nat.lt_or_ge 0 w.heap.size with hlt | hge
    · exact hlt
    · rw [Array.getElem?_eq_none hge] at hh; cases hh
  exact ⟨t, fr, (hb.block _ hlt).trans hh⟩
theorem shorts_load {w : World} (h : Shorts w) : (loadVar 55 ⟨0, 0, none⟩).run Tryd.prog w = .ok (.agg shC) w := by
  obtain ⟨t, fr, hh⟩ := h
  exact run_loadVar_row (P := Tryd.prog) w 0 t 55 shC fr _ hh Tryd.underlying55 rfl (by kernel_rfl)
theorem shorts_at (k : Nat) (hk : k < 15) : ∃ c r, shL[k]? = some (c, r) ∧ ∀ W, (Instr.index 55 (.agg shC) (.int .i64 (k : Int))).run Tryd.prog W = .ok (.agg #[.int .u8 c, .int .i32 r]) W := by
  match k, hk with
  | 0, _ => exact ⟨48, 0, rfl, fun _ => by kernel_rfl⟩
  | 1, _ => exact ⟨97, 7, rfl, fun _ => by kernel_rfl⟩
  | 2, _ => exact ⟨98, 8, rfl, fun _ => by kernel_rfl⟩
  | 3, _ => exact ⟨116, 9, rfl, fun _ => by kernel_rfl⟩
  | 4, _ => exact ⟨110, 10, rfl, fun _ => by kernel_rfl⟩
  | 5, _ => exact ⟨118, 11, rfl, fun _ => by kernel_rfl⟩
  | 6, _ => exact ⟨102, 12, rfl, fun _ => by kernel_rfl⟩
  | 7, _ => exact ⟨114, 13, rfl, fun _ => by kernel_rfl⟩
  | 8, _ => exact ⟨101, 27, rfl, fun _ => by kernel_rfl⟩
  | 9, _ => exact ⟨34, 34, rfl, fun _ => by kernel_rfl⟩
  | 10, _ => exact ⟨92, 92, rfl, fun _ => by kernel_rfl⟩
  | 11, _ => exact ⟨78, 133, rfl, fun _ => by kernel_rfl⟩
  | 12, _ => exact ⟨95, 160, rfl, fun _ => by kernel_rfl⟩
  | 13, _ => exact ⟨76, 8232, rfl, fun _ => by kernel_rfl⟩
  | 14, _ => exact ⟨80, 8233, rfl, fun _ => by kernel_rfl⟩
  | k + 15, h => omega
/-- One look further along the table. -/
theorem find_step (p : Int × Int → Bool) (k : Nat) (x : Int × Int) (hx : shL[k]? = some x) : (shL.drop k).find? p = if p x = true then some x else (shL.drop (k + 1)).find? p := by
  obtain ⟨hlt, he⟩ := List.getElem?_eq_some_iff.1 hx
  rw [List.drop_eq_getElem_cons hlt, he, List.find?_cons]
  cases p x <;> rfl

set_option maxHeartbeats 2000000 in
theorem escaped_loop (b off : Nat) (n cap : Nat) (c : Int) (w : World) (h0 : 0 ≤ c) (h1 : c < 256) (hn : 1 ≤ n) (hS : Shorts w) (hc : w.cell? ⟨b, off, none⟩ = some (.int .u8 c))
    (n1 : c ≠ 47) (n2 : c ≠ 32) (n3 : c ≠ 120) (n4 : c ≠ 117) (n5 : c ≠ 85) (o : Option Int) (ho : escL c = o) :
    Calls Tryd.prog 31 #[.slice (some ⟨b, off, none⟩) n cap] w fun e w' => e = retEsc (o.map fun r => (r, 1)) ∧ Below w.heap.size w w' := by
  have d : (0 : Int) < (n : Int) := by omega
  have d0 : ((n : Int) == 0) = false := beq_eq_false_iff_ne.2 (by omega)
  have e1 : (c == 47) = false := beq_eq_false_iff_ne.2 n1
  have e2 : (c == 32) = false := beq_eq_false_iff_ne.2 n2
  have e3 : (c == 120) = false := beq_eq_false_iff_ne.2 n3
  have e4 : (c == 117) = false := beq_eq_false_iff_ne.2 n4
  have e5 : (c == 85) = false := beq_eq_false_iff_ne.2 n5
  obtain ⟨T, fr, hh⟩ := hS
  have HH := Lib.hid hh
  have HI : Hid ((Tryd.prog.info? 55).map (·.size) = some shC.size) := by show _ = _; kernel_rfl
  have HO : Hid (((shL.drop 0).find? (fun x => x.1 == c)).map (·.2) = o) := ho
  have HC := Lib.hid hc
  have B0 : Hid (Below w.heap.size w w) := Below.refl _ _
  have HAT := Lib.hid shorts_at
  clear ho hh n1 n2 n3 n4 n5
  generalize shC = C at *
  go_enter Tryd.func31, Tryd.ntmps31
  go_wp2_with (refine wpList_load_row rfl 55 (.global 0) rfl 0 rfl T C fr _ HH.out Tryd.underlying55 rfl HI.out ?_)
  clear hc HI
  go_loopw [2, 3, 4, 42] (fun r1 r2 r3 i W => ∃ k : Nat, k ≤ 15 ∧ i = .int .i64 (k : Int) ∧ r1 = .int .i32 0 ∧ r2 = .int .i64 0 ∧ r3 = .bool false ∧ Hid (((shL.drop k).find? (fun x => x.1 == c)).map (·.2) = o ∧ Below w.heap.size w W)) (fun _ _ _ i _ => 15 - (intOf i).toNat)
  case atStart => exact ⟨0, by omega, rfl, rfl, rfl, rfl, HO.out, B0.out⟩
  case round =>
    obtain ⟨k, hk, rfl, rfl, rfl, rfl, HK⟩ := hrel
    obtain ⟨W, hW⟩ : ∃ x, x = wr := ⟨_, rfl⟩
    subst hW
    by_cases hlt : k < 15
    · have d : (k : Int) < 15 := by omega
      obtain ⟨x, r, hx, hrun⟩ := HAT.out k hlt
      have hst := find_step (fun x => x.1 == c) k (x, r) hx
      have hcW : W.cell? ⟨b, off, none⟩ = some (.int .u8 c) := cell_keep HK.out.2 HC.out
      have HB := Lib.hid HK.out.2
      have HKO := Lib.hid HK.out.1
      clear hx HK HAT
      have ix := hrun W
      clear hrun
      have c0 : (W.alloc (.cells #[.int .u8 x, .int .i32 r] 54)).cell? ⟨W.heap.size, 0, none⟩ = some (.int .u8 x) := by rw [World.cell?_alloc_mark]; rfl
      have c1 : (W.alloc (.cells #[.int .u8 x, .int .i32 r] 54)).cell? ⟨W.heap.size, 1, none⟩ = some (.int .i32 r) := by rw [World.cell?_alloc_mark]; rfl
      have cb : (W.alloc (.cells #[.int .u8 x, .int .i32 r] 54)).cell? ⟨b, off, none⟩ = some (.int .u8 c) := cell_keep ((Below.refl _ _).alloc (Nat.le_refl _) _) hcW
      have HB2 : Hid (Below w.heap.size w (W.alloc (.cells #[.int .u8 x, .int .i32 r] 54))) := HB.out.alloc HB.out.size _
      clear hcW
      by_cases hxc : x = c
      · have hv : o = some r := by rw [← HKO.out, hst]; simp [hxc]
        subst hv
        have ex : (x == c) = true := beq_iff_eq.2 hxc
        clear hst HKO hxc
        go_wp2_with fail
        generalize W.alloc (.cells #[.int .u8 x, .int .i32 r] 54) = V at *
        generalize W.heap.size = g at *
        go_quiet (fail)
        go_wp2_with fail
        go_ret3
        exact ⟨by simp [retEsc], below_draws HB2.out _⟩
      · have HN : Hid (((shL.drop (k + 1)).find? (fun x => x.1 == c)).map (·.2) = o) := by
          show _ = o
          rw [← HKO.out, hst]; simp [hxc]
        have ex : (x == c) = false := beq_eq_false_iff_ne.2 hxc
        clear hst HKO hxc
        go_wp2_with fail
        generalize W.alloc (.cells #[.int .u8 x, .int .i32 r] 54) = V at *
        generalize W.heap.size = g at *
        go_quiet (fail)
        go_wp2_with fail
        go_roundw
        case rel => exact ⟨k + 1, by omega, by go_num, rfl, rfl, rfl, HN.out, below_draws HB2.out _⟩
        case measure => simp [intOf]; omega
    · obtain rfl : k = 15 := by omega
      have hv : o = none := by rw [← HK.out.1]; rfl
      subst hv
      go_wp2_with fail
      go_ret3
      exact ⟨rfl, HK.out.2⟩

set_option maxHeartbeats 2000000 in
theorem escaped_any (A : Option Addr) (n cap : Nat) (zs : List Int) (w : World) (hl : zs.length = n) (hnc : n ≤ cap) (hm : cap ≤ 9223372036854775807) (hb : Byte zs) (hr : RdB w A zs) (hS : Shorts w) (o : Option (Int × Nat)) (ho : escF zs = o) :
    Calls Tryd.prog 31 #[.slice A n cap] w fun e w' => e = retEsc o ∧ Below w.heap.size w w' := by
  have B0 : Hid (Below w.heap.size w w) := Below.refl _ _
  cases zs with
  | nil =>
    simp at hl
    subst hl
    have hv : o = none := by rw [← ho]; rfl
    subst hv
    clear hr hb ho hS
    go_enter Tryd.func31, Tryd.ntmps31
    go_wp2_with fail
    go_ret3
    exact ⟨rfl, B0.out⟩
  | cons c t =>
    obtain ⟨b, off, rfl, hc⟩ := hr.cons
    have h0 : w.cell? ⟨b, off, none⟩ = some (.int .u8 c) := hc 0 c rfl
    have hcb := hb c (by simp)
    have hn : 1 ≤ n := by simp at hl; omega
    have d : (0 : Int) < (n : Int) := by omega
    have d0 : ((n : Int) == 0) = false := beq_eq_false_iff_ne.2 (by omega)
    simp only [escF] at ho
    by_cases n1 : c = 47
    · subst n1
      rw [if_pos (.inl rfl)] at ho
      subst ho
      clear hr hb hS hc hl
      go_enter Tryd.func31, Tryd.ntmps31
      go_wp2_with fail
      go_ret3
      exact ⟨rfl, B0.out⟩
    by_cases n2 : c = 32
    · subst n2
      rw [if_pos (.inr rfl)] at ho
      subst ho
      clear hr hb hS hc hl
      go_enter Tryd.func31, Tryd.ntmps31
      go_wp2_with fail
      go_ret3
      exact ⟨rfl, B0.out⟩
    rw [if_neg (by omega)] at ho
    by_cases n3 : c = 120
    · subst n3
      rw [if_pos rfl] at ho
      have hN := numbered_any _ n cap 2 _ w hl hnc hm hb hr (by omega) (by omega) o ho
      obtain ⟨x, y, z, hxyz⟩ : ∃ x y z, retEsc o = .returned (.tuple #[.int .i32 x, .int .i64 y, .bool z]) := ⟨_, _, _, rfl⟩
      rw [hxyz] at hN ⊢
      have HN : Hid (Calls Tryd.prog 57 #[.slice (some ⟨b, off, none⟩) n cap, .int .i64 2] w fun e w' => e = .returned (.tuple #[.int .i32 x, .int .i64 y, .bool z]) ∧ w = w') := hN
      clear hN hxyz
      clear hr hb hS hc hl ho
      go_enter Tryd.func31, Tryd.ntmps31
      go_wp2_with (go_at_call 57; refine HN.out.mono ?_; rintro e w' ⟨rfl, rfl⟩)
      go_ret3
      exact ⟨rfl, B0.out⟩
    rw [if_neg n3] at ho
    by_cases n4 : c = 117
    · subst n4
      rw [if_pos rfl] at ho
      have hN := numbered_any _ n cap 4 _ w hl hnc hm hb hr (by omega) (by omega) o ho
      obtain ⟨x, y, z, hxyz⟩ : ∃ x y z, retEsc o = .returned (.tuple #[.int .i32 x, .int .i64 y, .bool z]) := ⟨_, _, _, rfl⟩
      rw [hxyz] at hN ⊢
      have HN : Hid (Calls Tryd.prog 57 #[.slice (some ⟨b, off, none⟩) n cap, .int .i64 4] w fun e w' => e = .returned (.tuple #[.int .i32 x, .int .i64 y, .bool z]) ∧ w = w') := hN
      clear hN hxyz
      clear hr hb hS hc hl ho
      go_enter Tryd.func31, Tryd.ntmps31
      go_wp2_with (go_at_call 57; refine HN.out.mono ?_; rintro e w' ⟨rfl, rfl⟩)
      go_ret3
      exact ⟨rfl, B0.out⟩
    rw [if_neg n4] at ho
    by_cases n5 : c = 85
    · subst n5
      rw [if_pos rfl] at ho
      have hN := numbered_any _ n cap 8 _ w hl hnc hm hb hr (by omega) (by omega) o ho
      obtain ⟨x, y, z, hxyz⟩ : ∃ x y z, retEsc o = .returned (.tuple #[.int .i32 x, .int .i64 y, .bool z]) := ⟨_, _, _, rfl⟩
      rw [hxyz] at hN ⊢
      have HN : Hid (Calls Tryd.prog 57 #[.slice (some ⟨b, off, none⟩) n cap, .int .i64 8] w fun e w' => e = .returned (.tuple #[.int .i32 x, .int .i64 y, .bool z]) ∧ w = w') := hN
      clear hN hxyz
      clear hr hb hS hc hl ho
      go_enter Tryd.func31, Tryd.ntmps31
      go_wp2_with (go_at_call 57; refine HN.out.mono ?_; rintro e w' ⟨rfl, rfl⟩)
      go_ret3
      exact ⟨rfl, B0.out⟩
    rw [if_neg n5] at ho
    have := escaped_loop b off n cap c w hcb.1 hcb.2 hn hS h0 n1 n2 n3 n4 n5 (escL c) rfl
    rw [ho] at this
    exact this
end Go.Proofs.YtdjpdcjljpmfnaaDoor
