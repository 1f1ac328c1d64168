/- The document's own small answers of chapter 6: digit, escape, utf8. -/
import Derived.Test.YtgiloooandiokaaDoorDbHex
namespace Go.Proofs.YtgiloooandiokaaDoor
open Go.RowKit
set_option linter.unusedVariables false

set_option maxHeartbeats 1000000 in
theorem refDigit_any (c : Int) (h0 : 0 ≤ c) (h1 : c < 256) (w : World) (o : Option Int) (ho : hexD c = o) :
    Calls Tryd.prog 26 #[.int .u8 c] w fun e w' => e = .returned (.int .i64 (o.getD (-1))) ∧ w = w' := by
  have HO := Lib.hid ho
  clear ho
  by_cases hd : 48 ≤ c ∧ c ≤ 57
  · have hv : o = some (c - 48) := by rw [← HO.out, hexD, if_pos hd]
    subst hv
    have hd1 := hd.1
    have hd2 := hd.2
    clear HO hd
    go_enter Tryd.func26, Tryd.ntmps26
    go_wp2_with fail
    go_ret
    exact ⟨by simp, rfl⟩
  by_cases hA : 65 ≤ c ∧ c ≤ 70
  · have hv : o = some (c - 55) := by rw [← HO.out, hexD, if_neg hd, if_pos hA]
    subst hv
    have hd1 := hA.1
    have hd2 := hA.2
    have hd3 : decide (c ≤ 57) = false := decide_eq_false (by omega)
    clear HO hd hA
    go_enter Tryd.func26, Tryd.ntmps26
    go_wp2_with fail
    go_ret
    exact ⟨by simp; omega, rfl⟩
  by_cases ha : 97 ≤ c ∧ c ≤ 102
  · have hv : o = some (c - 87) := by rw [← HO.out, hexD, if_neg hd, if_neg hA, if_pos ha]
    subst hv
    have hd1 := ha.1
    have hd2 := ha.2
    have hd3 : decide (c ≤ 57) = false := decide_eq_false (by omega)
    have hd4 : decide (c ≤ 70) = false := decide_eq_false (by omega)
    clear HO hd hA ha
    go_enter Tryd.func26, Tryd.ntmps26
    go_wp2_with fail
    go_ret
    exact ⟨by simp; omega, rfl⟩
  · have hv : o = none := by rw [← HO.out, hexD, if_neg hd, if_neg hA, if_neg ha]
    subst hv
    have hN := Lib.hid (And.intro hd (And.intro hA ha))
    clear HO hd hA ha
    go_enter Tryd.func26, Tryd.ntmps26
    go_wp2_with fail
    all_goals first
      | (go_ret; exact ⟨rfl, rfl⟩)
      | (exfalso; have := hN.out; omega)

def esc1 (c : Int) : Int := if c = 47 ∨ c = 32 then c else (escL c).getD (-1)
def refL : List (Int × Int) := [(48, 0), (97, 7), (98, 8), (116, 9), (110, 10), (118, 11), (102, 12), (114, 13), (101, 27), (34, 34), (47, 47), (92, 92), (32, 32), (78, 133), (95, 160), (76, 8232), (80, 8233)]
theorem ref_all : ∀ c : Fin 256, ((refL.find? (fun x => x.1 == (c.val : Int))).map (·.2)).getD (-1) = esc1 (c.val : Int) := by decide +kernel
theorem ref_esc (c : Int) (h0 : 0 ≤ c) (h1 : c < 256) : ((refL.find? (fun x => x.1 == c)).map (·.2)).getD (-1) = esc1 c := by
  have h := ref_all ⟨c.toNat, by omega⟩
  have e : ((c.toNat : Nat) : Int) = c := by omega
  simpa only [e] using h
def refC : Array Value := (refL.map fun x => Value.int .i32 x.2).toArray
theorem ref_at (k : Nat) (hk : k < 17) : ∃ c r, refL[k]? = some (c, r) ∧ refC[k]? = some (.int .i32 r) ∧ ∀ W, (Instr.index 9 (.string ⟨#[48, 97, 98, 116, 110, 118, 102, 114, 101, 34, 47, 92, 32, 78, 95, 76, 80]⟩) (.int .i64 (k : Int))).run Tryd.prog W = .ok (.int .u8 c) W := by
  match k, hk with
  | 0, _ => exact ⟨48, 0, rfl, rfl, fun _ => by kernel_rfl⟩
  | 1, _ => exact ⟨97, 7, rfl, rfl, fun _ => by kernel_rfl⟩
  | 2, _ => exact ⟨98, 8, rfl, rfl, fun _ => by kernel_rfl⟩
  | 3, _ => exact ⟨116, 9, rfl, rfl, fun _ => by kernel_rfl⟩
  | 4, _ => exact ⟨110, 10, rfl, rfl, fun _ => by kernel_rfl⟩
  | 5, _ => exact ⟨118, 11, rfl, rfl, fun _ => by kernel_rfl⟩
  | 6, _ => exact ⟨102, 12, rfl, rfl, fun _ => by kernel_rfl⟩
  | 7, _ => exact ⟨114, 13, rfl, rfl, fun _ => by kernel_rfl⟩
  | 8, _ => exact ⟨101, 27, rfl, rfl, fun _ => by kernel_rfl⟩
  | 9, _ => exact ⟨34, 34, rfl, rfl, fun _ => by kernel_rfl⟩
  | 10, _ => exact ⟨47, 47, rfl, rfl, fun _ => by kernel_rfl⟩
  | 11, _ => exact ⟨92, 92, rfl, rfl, fun _ => by kernel_rfl⟩
  | 12, _ => exact ⟨32, 32, rfl, rfl, fun _ => by kernel_rfl⟩
  | 13, _ => exact ⟨78, 133, rfl, rfl, fun _ => by kernel_rfl⟩
  | 14, _ => exact ⟨95, 160, rfl, rfl, fun _ => by kernel_rfl⟩
  | 15, _ => exact ⟨76, 8232, rfl, rfl, fun _ => by kernel_rfl⟩
  | 16, _ => exact ⟨80, 8233, rfl, rfl, fun _ => by kernel_rfl⟩
  | k + 17, h => omega
theorem refFind_step (p : Int × Int → Bool) (k : Nat) (x : Int × Int) (hx : refL[k]? = some x) : (refL.drop k).find? p = if p x = true then some x else (refL.drop (k + 1)).find? p := by
  obtain ⟨hlt, he⟩ := List.getElem?_eq_some_iff.1 hx
  rw [List.drop_eq_getElem_cons hlt, he, List.find?_cons]
  cases p x <;> rfl

set_option maxHeartbeats 2000000 in
theorem refEscape_any (c : Int) (w : World) (h0 : 0 ≤ c) (h1 : c < 256) (v : Int) (hv : esc1 c = v) :
    Calls Tryd.prog 24 #[.int .u8 c] w fun e w' => e = .returned (.int .i32 v) ∧ Below w.heap.size w w' := by
  have HV : Hid ((((refL.drop 0).find? (fun x => x.1 == c)).map (·.2)).getD (-1) = v) := by
    show _ = _
    rw [List.drop_zero, ref_esc c h0 h1, hv]
  have HAT := Lib.hid ref_at
  obtain ⟨V, hV⟩ : ∃ V, w.alloc (.cells refC 21) = V := ⟨_, rfl⟩
  have HC : Hid (∀ k x, refC[k]? = some x → V.cell? ⟨w.heap.size, k, none⟩ = some x) := by
    intro k x hx
    rw [← hV, World.cell?_alloc_mark]; exact hx
  have HB : Hid (Below w.heap.size w V) := hV ▸ (Below.refl _ _).alloc (Nat.le_refl _) _
  have hV2 : w.alloc (.cells #[.int .i32 0, .int .i32 7, .int .i32 8, .int .i32 9, .int .i32 10, .int .i32 11, .int .i32 12, .int .i32 13, .int .i32 27, .int .i32 34, .int .i32 47, .int .i32 92, .int .i32 32, .int .i32 133, .int .i32 160, .int .i32 8232, .int .i32 8233] 21) = V := hV
  clear hv hV
  go_enter Tryd.func24, Tryd.ntmps24
  go_wp2_with fail
  clear hV2
  go_loop [2, 5] (fun r i => ∃ k : Nat, k ≤ 17 ∧ i = .int .i64 (k : Int) ∧ r = .int .i32 0 ∧ Hid ((((refL.drop k).find? (fun x => x.1 == c)).map (·.2)).getD (-1) = v)) (fun _ i => 17 - (intOf i).toNat)
  case atStart => exact ⟨0, by omega, rfl, rfl, HV.out⟩
  case round =>
    obtain ⟨k, hk, rfl, rfl, HK⟩ := hrel
    by_cases hlt : k < 17
    · have d : (k : Int) < 17 := by omega
      obtain ⟨x, r, hx, hcx, hrun⟩ := HAT.out k hlt
      have hst := refFind_step (fun x => x.1 == c) k (x, r) hx
      have hcell := HC.out k _ hcx
      have ix := hrun V
      clear hrun hx hcx
      by_cases hxc : x = c
      · have hv : v = r := by rw [← HK.out, hst]; simp [hxc]
        subst hv
        have ex : (x == c) = true := beq_iff_eq.2 hxc
        clear hst HK hxc
        go_wp2_with fail
        go_ret
        exact ⟨rfl, HB.out⟩
      · have HN : Hid ((((refL.drop (k + 1)).find? (fun x => x.1 == c)).map (·.2)).getD (-1) = v) := by
          show _ = v
          rw [← HK.out, hst]; simp [hxc]
        have ex : (x == c) = false := beq_eq_false_iff_ne.2 hxc
        clear hst HK hxc
        go_wp2_with fail
        go_round
        case rel => exact ⟨k + 1, by omega, by go_num, rfl, HN⟩
        case measure => simp [intOf]; omega
    · obtain rfl : k = 17 := by omega
      have hv : v = -1 := by rw [← HK.out]; rfl
      subst hv
      go_wp2_with fail
      go_ret
      exact ⟨rfl, HB.out⟩

theorem cellsB_1 (a : Int) : cellsB [a] = #[.int .u8 a] := rfl
/-- The bytes of a rune, in memory of its own. -/
theorem new_mk {w : World} (zs : List Int) (m : Nat) (hm : zs.length = m) (hm0 : m ≤ 100) : NewB w zs (.returned (.slice (some ⟨w.heap.size, 0, none⟩) m m)) (w.alloc (.cells (cellsB zs) 5)) :=
  ⟨_, m, m, rfl, hm, Nat.le_refl _, by omega, (fun h => by cases h), RdB.new rfl (fun k y hy => cellsB_at k y hy), (Below.refl _ _).alloc (Nat.le_refl _) _⟩
theorem i32_and63 (x : Int) (h₀ : 0 ≤ x) (h₁ : x < 2147483648) : bits .and .i32 x 63 = x % 64 := bits_mask .i32 31 (by decide) wraps_i32 6 (by decide) x h₀ h₁

set_option maxHeartbeats 2000000 in
theorem refUtf8_any (r : Int) (w : World) (hok : okR r = true) :
    Calls Tryd.prog 25 #[.int .i32 r] w (NewB w (utfF r)) := by
  obtain ⟨h0, hmax, _⟩ := okR_parts hok
  clear hok
  have a1 : bits .and .i32 r 63 = r % 64 := i32_and63 r h0 (by omega)
  have a2 : bits .and .i32 (r / 64) 63 = r / 64 % 64 := i32_and63 _ (by omega) (by omega)
  have a3 : bits .and .i32 (r / 4096) 63 = r / 4096 % 64 := i32_and63 _ (by omega) (by omega)
  by_cases h1 : r < 128
  · have hu : utfF r = [r] := by unfold utfF; rw [if_pos h1]
    rw [hu]
    clear hu
    have HG : Hid (∀ x, x = r → NewB w [r] (.returned (.slice (some ⟨w.heap.size, 0, none⟩) 1 1)) (w.alloc (.cells #[.int .u8 x] 5))) := by
      rintro x rfl; exact new_mk [x] 1 rfl (by omega)
    go_enter Tryd.func25, Tryd.ntmps25
    go_wp2_with fail
    go_ret
    exact HG.out _ (by omega)
  have d1 : decide (r < 128) = false := decide_eq_false (by omega)
  by_cases h2 : r < 2048
  · have hu : utfF r = [192 + r / 64, 128 + r % 64] := by unfold utfF; rw [if_neg h1, if_pos h2]
    rw [hu]
    clear hu
    have HG : Hid (∀ x y, x = 192 + r / 64 → y = 128 + r % 64 → NewB w [192 + r / 64, 128 + r % 64] (.returned (.slice (some ⟨w.heap.size, 0, none⟩) 2 2)) (w.alloc (.cells #[.int .u8 x, .int .u8 y] 5))) := by
      rintro x y rfl rfl; exact new_mk _ 2 rfl (by omega)
    go_enter Tryd.func25, Tryd.ntmps25
    go_wp2_with fail
    go_ret
    exact HG.out _ _ (by omega) (by omega)
  have d2 : decide (r < 2048) = false := decide_eq_false (by omega)
  by_cases h3 : r < 65536
  · have hu : utfF r = [224 + r / 4096, 128 + r / 64 % 64, 128 + r % 64] := by unfold utfF; rw [if_neg h1, if_neg h2, if_pos h3]
    rw [hu]
    clear hu
    have HG : Hid (∀ x y z, x = 224 + r / 4096 → y = 128 + r / 64 % 64 → z = 128 + r % 64 → NewB w [224 + r / 4096, 128 + r / 64 % 64, 128 + r % 64] (.returned (.slice (some ⟨w.heap.size, 0, none⟩) 3 3)) (w.alloc (.cells #[.int .u8 x, .int .u8 y, .int .u8 z] 5))) := by
      rintro x y z rfl rfl rfl; exact new_mk _ 3 rfl (by omega)
    go_enter Tryd.func25, Tryd.ntmps25
    go_wp2_with fail
    go_ret
    exact HG.out _ _ _ (by omega) (by omega) (by omega)
  · have hu : utfF r = [240 + r / 262144, 128 + r / 4096 % 64, 128 + r / 64 % 64, 128 + r % 64] := by unfold utfF; rw [if_neg h1, if_neg h2, if_neg h3]
    rw [hu]
    clear hu
    have d3 : decide (r < 65536) = false := decide_eq_false (by omega)
    have HG : Hid (∀ x y z u, x = 240 + r / 262144 → y = 128 + r / 4096 % 64 → z = 128 + r / 64 % 64 → u = 128 + r % 64 → NewB w [240 + r / 262144, 128 + r / 4096 % 64, 128 + r / 64 % 64, 128 + r % 64] (.returned (.slice (some ⟨w.heap.size, 0, none⟩) 4 4)) (w.alloc (.cells #[.int .u8 x, .int .u8 y, .int .u8 z, .int .u8 u] 5))) := by
      rintro x y z u rfl rfl rfl rfl; exact new_mk _ 4 rfl (by omega)
    go_enter Tryd.func25, Tryd.ntmps25
    go_wp2_with fail
    go_ret
    exact HG.out _ _ _ _ (by omega) (by omega) (by omega) (by omega)
end Go.Proofs.YtgiloooandiokaaDoor
