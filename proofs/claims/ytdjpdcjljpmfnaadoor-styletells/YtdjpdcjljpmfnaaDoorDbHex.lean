/- double.Hex, and the document's Hex. -/
import Derived.Test.YtdjpdcjljpmfnaaDoorDbLeaf
import Derived.Test.YtdjpdcjljpmfnaaDoorOne
namespace Go.Proofs.YtdjpdcjljpmfnaaDoor
open Go.RowKit
set_option linter.unusedVariables false
set_option maxRecDepth 100000

def hexS (n d : Int) : List Int := if d < 0 ∨ 8 < d then [] else hexF n d.toNat
def HexP (n d : Int) (w : World) (e : Ending) (w' : World) : Prop := ∃ s : ByteArray, byt s = hexS n d ∧ e = .returned (.string s) ∧ Below w.heap.size w w'
theorem six_at (j : Int) (h0 : 0 ≤ j) (h1 : j < 16) (W : World) :
    (Instr.index 9 (.string ⟨#[48, 49, 50, 51, 52, 53, 54, 55, 56, 57, 65, 66, 67, 68, 69, 70]⟩) (.int .u32 j)).run Tryd.prog W = .ok (.int .u8 (hexC j)) W := by
  have h : j = 0 ∨ j = 1 ∨ j = 2 ∨ j = 3 ∨ j = 4 ∨ j = 5 ∨ j = 6 ∨ j = 7 ∨ j = 8 ∨ j = 9 ∨ j = 10 ∨ j = 11 ∨ j = 12 ∨ j = 13 ∨ j = 14 ∨ j = 15 := by omega
  rcases h with rfl | rfl | rfl | rfl | rfl | rfl | rfl | rfl | rfl | rfl | rfl | rfl | rfl | rfl | rfl | rfl <;> (show _ = _; kernel_rfl)
theorem set_hex (k : Nat) (s : List Int) (z : Int) : (List.replicate (k + 1) 0 ++ s).set k z = List.replicate k 0 ++ (z :: s) := by
  rw [List.replicate_succ', List.append_assoc, List.set_append_right _ _ (by simp)]
  simp
theorem hexF_all (n : Int) (d : Nat) : Byte (hexF n d) := fun z hz => by have := hexF_byte d n z hz; omega

set_option maxHeartbeats 2000000 in
theorem hex_any (n d : Int) (w : World) (h0 : 0 ≤ n) (h1 : n < 4294967296) (hd : -9223372036854775808 ≤ d ∧ d ≤ 9223372036854775807) :
    Calls Tryd.prog 46 #[.int .u32 n, .int .i64 d] w (HexP n d w) := by
  have B0 : Hid (Below w.heap.size w w) := Below.refl _ _
  by_cases hs : d < 0 ∨ 8 < d
  · have hv : hexS n d = [] := by unfold hexS; rw [if_pos hs]
    have HV := Lib.hid hv
    rcases hs with hs | hs
    · clear hv
      go_enter Tryd.func46, Tryd.ntmps46
      go_wp2_with fail
      go_ret
      exact ⟨⟨#[]⟩, by rw [HV.out]; rfl, rfl, B0.out⟩
    · have hs0 : decide (d < 0) = false := decide_eq_false (by omega)
      clear hv
      go_enter Tryd.func46, Tryd.ntmps46
      go_wp2_with fail
      go_ret
      exact ⟨⟨#[]⟩, by rw [HV.out]; rfl, rfl, B0.out⟩
  · obtain ⟨m, rfl⟩ : ∃ m : Nat, d = (m : Int) := ⟨d.toNat, by omega⟩
    have hm : m ≤ 8 := by omega
    have HV : Hid (hexS n (m : Int) = hexF n m) := by show _ = _; unfold hexS; rw [if_neg hs, Int.toNat_natCast]
    have hs1 : decide ((m : Int) < 0) = false := decide_eq_false (by omega)
    have hs2 : decide (8 < (m : Int)) = false := decide_eq_false (by omega)
    have hmk := run_make_bytes m (by omega) w
    have HNEW : Hid (OwnB (w.alloc (.cells (cellsB (List.replicate m 0)) 5)) w.heap.size (List.replicate m 0 ++ []) ∧ Below w.heap.size w (w.alloc (.cells (cellsB (List.replicate m 0)) 5))) := by
      rw [List.append_nil]
      exact ⟨OwnB.new w _, (Below.refl _ _).alloc (Nat.le_refl _) _⟩
    clear hs hd
    go_enter Tryd.func46, Tryd.ntmps46
    go_wp2_with fail
    clear hmk
    go_loopw [0, 6] (fun v i W => ∃ (i0 q : Int) (k : Nat), i0 + 1 = (k : Int) ∧ k ≤ m ∧ i = .int .i64 i0 ∧ v = .int .u32 q ∧ 0 ≤ q ∧ q < 4294967296 ∧
      Hid (∃ s, hexF n m = hexF q k ++ s ∧ OwnB W w.heap.size (List.replicate k 0 ++ s) ∧ Below w.heap.size w W)) (fun _ i _ => (intOf i + 1).toNat)
    case atStart => exact ⟨(m : Int) - 1, n, m, by omega, by omega, rfl, rfl, h0, h1, [], by simp, HNEW.out⟩
    case round =>
      obtain ⟨i0, q, k, hik, hkm, rfl, rfl, hq0, hq1, HK⟩ := hrel
      obtain ⟨W, hW⟩ : ∃ x, x = wr := ⟨_, rfl⟩
      subst hW
      obtain ⟨s, hsx, hown, hbel⟩ := HK.out
      have HB := Lib.hid hbel
      have HS := Lib.hid hsx
      have HOWN := Lib.hid hown
      clear hsx hbel hown HK
      by_cases hlt : 0 ≤ i0
      · obtain ⟨j, rfl⟩ : ∃ j : Nat, i0 = (j : Int) := ⟨i0.toNat, by omega⟩
        obtain rfl : k = j + 1 := by omega
        have hsl : (hexF n m).length = m := hexF_len m n
        have hlen : s.length + (j + 1) = m := by
          have := congrArg List.length HS.out
          rw [List.length_append, hexF_len, hexF_len] at this; omega
        have hcz := HOWN.out.at_ j 0 (by rw [List.getElem?_append_left (by simp)]; simp)
        have hfz := HOWN.out.frozen j
        have hjm : (j : Int) < (m : Int) := by omega
        have hand : bits .and .u32 q 15 = q % 16 := u32_and15 q hq0 hq1
        have hix := six_at (q % 16) (by omega) (by omega) W
        have HS2 : Hid (hexF n m = hexF (q / 16) j ++ (hexC (q % 16) :: s)) := by
          show _ = _
          rw [HS.out, hexF]; simp
        have HO2 : Hid (OwnB (W.setCell ⟨w.heap.size, j, none⟩ (.int .u8 (hexC (q % 16)))) w.heap.size (List.replicate j 0 ++ (hexC (q % 16) :: s)) ∧ Below w.heap.size w (W.setCell ⟨w.heap.size, j, none⟩ (.int .u8 (hexC (q % 16))))) := by
          refine ⟨?_, HB.out.setCell (Nat.le_refl _) _⟩
          rw [← set_hex]
          exact HOWN.out.set _ _
        clear hsl hlen hik
        generalize hexC (q % 16) = z at *
        go_wp2_with fail
        go_roundw
        case rel => exact ⟨(j : Int) - 1, q / 16, j, by omega, by omega, rfl, rfl, by omega, by omega, _, HS2.out, HO2.out⟩
        case measure => simp [intOf]
      · obtain rfl : k = 0 := by omega
        obtain rfl : i0 = -1 := by omega
        have hsl : s.length = m := by
          have := congrArg List.length HS.out
          rw [List.length_append, hexF_len, hexF_len] at this; omega
        have hown := HOWN.out
        rw [List.replicate_zero, List.nil_append] at hown
        have hss : hexF n m = s := by rw [HS.out]; rfl
        have hcv := run_string_rd W (some ⟨w.heap.size, 0, none⟩) m m s hsl hown.rd
        have HX : Hid (byt (strOfNums s) = hexF n m) := by
          show _ = _
          rw [hss]; exact byt_strOfNums s (hss ▸ hexF_all n m)
        generalize strOfNums s = y at *
        clear hsl hown hss
        go_wp2_with fail
        go_ret
        exact ⟨y, by rw [HX.out, HV.out], rfl, HB.out⟩

set_option maxHeartbeats 2000000 in
theorem refHex_any (n d : Int) (w : World) (h0 : 0 ≤ n) (h1 : n < 4294967296) (hd : -9223372036854775808 ≤ d ∧ d ≤ 9223372036854775807) :
    Calls Tryd.prog 42 #[.int .u32 n, .int .i64 d] w (HexP n d w) := by
  have B0 : Hid (Below w.heap.size w w) := Below.refl _ _
  by_cases hs : d < 0 ∨ 8 < d
  · have hv : hexS n d = [] := by unfold hexS; rw [if_pos hs]
    have HV := Lib.hid hv
    rcases hs with hs | hs
    · clear hv
      go_enter Tryd.func42, Tryd.ntmps42
      go_wp2_with fail
      go_ret
      exact ⟨⟨#[]⟩, by rw [HV.out]; rfl, rfl, B0.out⟩
    · have hs0 : decide (d < 0) = false := decide_eq_false (by omega)
      clear hv
      go_enter Tryd.func42, Tryd.ntmps42
      go_wp2_with fail
      go_ret
      exact ⟨⟨#[]⟩, by rw [HV.out]; rfl, rfl, B0.out⟩
  · obtain ⟨m, rfl⟩ : ∃ m : Nat, d = (m : Int) := ⟨d.toNat, by omega⟩
    have hm : m ≤ 8 := by omega
    have HV : Hid (hexS n (m : Int) = hexF n m) := by show _ = _; unfold hexS; rw [if_neg hs, Int.toNat_natCast]
    have hs1 : decide ((m : Int) < 0) = false := decide_eq_false (by omega)
    have hs2 : decide (8 < (m : Int)) = false := decide_eq_false (by omega)
    clear hs hd
    go_enter Tryd.func42, Tryd.ntmps42
    go_wp2_with fail
    go_loopw [5, 6] (fun v i W => ∃ (i0 : Int) (k p cap : Nat) (A : Option Addr), i0 + 1 = (k : Int) ∧ k + p = m ∧ i = .int .i64 i0 ∧ v = .slice A p cap ∧ p ≤ cap ∧ cap ≤ 9223372036854775807 ∧
      Hid (W.ownsRow w.heap.size 5 1 (.slice A p cap) p ((hexF (n / 2 ^ (4 * k)) p).map (Value.int .u8)) ∧ Below w.heap.size w W)) (fun _ i _ => (intOf i + 1).toNat)
    case atStart => exact ⟨(m : Int) - 1, m, 0, 0, none, by omega, by omega, rfl, rfl, by omega, by omega, own_nil _ _ _ _, B0.out⟩
    case round =>
      obtain ⟨i0, k, p, cap, A, hik, hkm, rfl, rfl, hpc, hcap, HK⟩ := hrel
      obtain ⟨W, hW⟩ : ∃ x, x = wr := ⟨_, rfl⟩
      subst hW
      by_cases hlt : 0 ≤ i0
      · obtain ⟨j, rfl⟩ : ∃ j : Nat, i0 = (j : Int) := ⟨i0.toNat, by omega⟩
        obtain rfl : k = j + 1 := by omega
        have hj8 : j < 8 := by omega
        have hown := HK.out.1
        have HB := Lib.hid HK.out.2
        clear HK
        have hpp : (0 : Int) < 2 ^ (4 * j) := Int.pow_pos (by omega)
        have hq0 : 0 ≤ n / 2 ^ (4 * j) := Int.ediv_nonneg h0 (by omega)
        have hq1 : n / 2 ^ (4 * j) ≤ n := Int.ediv_le_self _ h0
        have hqq : n / 2 ^ (4 * (j + 1)) = n / 2 ^ (4 * j) / 16 := by
          rw [show 4 * (j + 1) = 4 * j + 4 by omega, Int.pow_add, Int.ediv_ediv_of_nonneg (by omega)]; rfl
        rw [hqq] at hown
        have hsx : hexF (n / 2 ^ (4 * j)) (p + 1) = hexF (n / 2 ^ (4 * j) / 16) p ++ [hexC (n / 2 ^ (4 * j) % 16)] := rfl
        have hand : bits .and .u32 (n / 2 ^ (4 * j)) 15 = n / 2 ^ (4 * j) % 16 := u32_and15 _ hq0 (by omega)
        have hix := six_at (n / 2 ^ (4 * j) % 16) (by omega) (by omega) W
        obtain ⟨A2, cap2, W2, hrun, g1, g2, _, g4, g5⟩ := one_more w W A cap p _ (hexF_len p _) hown HB.out (hexC (n / 2 ^ (4 * j) % 16)) (by omega)
        rw [← hsx] at g4
        have HRUN := Lib.hid hrun
        have HG := Lib.hid (And.intro g4 g5)
        have hp1 : p + 1 ≤ 8 := by omega
        clear hown hrun g4 g5 hpp hqq hsx hik
        generalize hexC (n / 2 ^ (4 * j) % 16) = z at *
        go_wp2_with (at_builtin; refine wpList_append_known rfl _ (.tmp 27) 37 rfl (.slice A p cap) (.slice (some ⟨W.heap.size, 0, none⟩) 1 1) _ _ rfl rfl HRUN.out ?_)
        go_roundw
        case rel => exact ⟨(j : Int) - 1, j, p + 1, cap2, A2, by omega, by omega, rfl, rfl, g1, g2, HG.out.1, HG.out.2⟩
        case measure => simp [intOf]
      · obtain rfl : k = 0 := by omega
        obtain rfl : i0 = -1 := by omega
        have hpm : p = m := by omega
        have hown := HK.out.1
        rw [Nat.mul_zero, Int.pow_zero, Int.ediv_one] at hown
        have HB := Lib.hid HK.out.2
        have hcv := run_string_rd W A p cap _ (hexF_len p n) (RdC.own hown).toB
        have HX : Hid (byt (strOfNums (hexF n p)) = hexF n m) := by
          show _ = _
          rw [byt_strOfNums _ (hexF_all n p), hpm]
        generalize strOfNums (hexF n p) = y at *
        clear hown HK hpm hkm
        go_wp2_with fail
        go_ret
        exact ⟨y, by rw [HX.out, HV.out], rfl, HB.out⟩
end Go.Proofs.YtdjpdcjljpmfnaaDoor
