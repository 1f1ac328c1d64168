/- The document's own small answers of chapter 6: digit, escape, utf8. -/
import Derived.Test.YtdjpdcjljpmfnaaDoorDbHex
namespace Go.Proofs.YtdjpdcjljpmfnaaDoor
open Go.RowKit
set_option linter.unusedVariables false
set_option maxRecDepth 100000


def esc1 (c : Int) : Int := if c = 47 ∨ c = 32 then c else (escL c).getD (-1)
def refL : List (Int × Int) := [(48, 0), (97, 7), (98, 8), (116, 9), (110, 10), (118, 11), (102, 12), (114, 13), (101, 27), (34, 34), (47, 47), (92, 92), (32, 32), (78, 133), (95, 160), (76, 8232), (80, 8233)]
theorem ref_all : ∀ c : Fin 256, ((refL.find? (fun x => x.1 == (c.val : Int))).map (·.2)).getD (-1) = esc1 (c.val : Int) := by decide +kernel
theorem ref_esc (c : Int) (h0 : 0 ≤ c) (h1 : c < 256) : ((refL.find? (fun x => x.1 == c)).map (·.2)).getD (-1) = esc1 c := by
  have h := ref_all ⟨c.toNat, by omega⟩
  have e : ((c.toNat : Nat) : Int) = c := by omega
  simpa only [e] using h
def refC : Array Value := (refL.map fun x => Value.int .i32 x.2).toArray
theorem ref_at (k : Nat) (hk : k < 17) : ∃ c r, refL[k]? = some (c, r) ∧ refC[k]? = some (.int .i32 r) ∧ ∀ W, (Instr.index 9 (.string ⟨#[48, 97, 98, 116, 110, 118, 102, 114, 101, 34, 47, 92, 32, 78, 95, 76, 80]⟩) (.int .i64 (k : Int))).run Tryd.prog W = .ok (.int .u8 c) W := by
  match k, hk with
  | 0, _ => exact ⟨48, 0, rfl, rfl, fun _ => by kernel_rfl⟩
  | 1, _ => exact ⟨97, 7, rfl, rfl, fun _ => by kernel_rfl⟩
  | 2, _ => exact ⟨98, 8, rfl, rfl, fun _ => by kernel_rfl⟩
  | 3, _ => exact ⟨116, 9, rfl, rfl, fun _ => by kernel_rfl⟩
  | 4, _ => exact ⟨110, 10, rfl, rfl, fun _ => by kernel_rfl⟩
  | 5, _ => exact ⟨118, 11, rfl, rfl, fun _ => by kernel_rfl⟩
  | 6, _ => exact ⟨102, 12, rfl, rfl, fun _ => by kernel_rfl⟩
  | 7, _ => exact ⟨114, 13, rfl, rfl, fun _ => by kernel_rfl⟩
  | 8, _ => exact ⟨101, 27, rfl, rfl, fun _ => by kernel_rfl⟩
  | 9, _ => exact ⟨34, 34, rfl, rfl, fun _ => by kernel_rfl⟩
  | 10, _ => exact ⟨47, 47, rfl, rfl, fun _ => by kernel_rfl⟩
  | 11, _ => exact ⟨92, 92, rfl, rfl, fun _ => by kernel_rfl⟩
  | 12, _ => exact ⟨32, 32, rfl, rfl, fun _ => by kernel_rfl⟩
  | 13, _ => exact ⟨78, 133, rfl, rfl, fun _ => by kernel_rfl⟩
  | 14, _ => exact ⟨95, 160, rfl, rfl, fun _ => by kernel_rfl⟩
  | 15, _ => exact ⟨76, 8232, rfl, rfl, fun _ => by kernel_rfl⟩
  | 16, _ => exact ⟨80, 8233, rfl, rfl, fun _ => by kernel_rfl⟩
  | k + 17, h => omega
theorem refFind_step (p : Int × Int → Bool) (k : Nat) (x : Int × Int) (hx : refL[k]? = some x) : (refL.drop k).find? p = if p x = true then some x else (refL.drop (k + 1)).find? p := by
  obtain ⟨hlt, he⟩ := List.getElem?_eq_some_iff.1 hx
  rw [List.drop_eq_getElem_cons hlt, he, List.find?_cons]
  cases p x <;> rfl

set_option maxHeartbeats 2000000 in
theorem refEscape_any (c : Int) (w : World) (h0 : 0 ≤ c) (h1 : c < 256) (v : Int) (hv : esc1 c = v) :
    Calls Tryd.prog 40 #[.int .u8 c] w fun e w' => e = .returned (.int .i32 v) ∧ Below w.heap.size w w' := by
  have HV : Hid ((((refL.drop 0).find? (fun x => x.1 == c)).map (·.2)).getD (-1) = v) := by
    show _ = _
    rw [List.drop_zero, ref_esc c h0 h1, hv]
  have HAT := Lib.hid ref_at
  obtain ⟨V, hV⟩ : ∃ V, w.alloc (.cells refC 21) = V := ⟨_, rfl⟩
  have HC : Hid (∀ k x, refC[k]? = some x → V.cell? ⟨w.heap.size, k, none⟩ = some x) := by
    intro k x hx
    rw [← hV, World.cell?_alloc_mark]; exact hx
  have HB : Hid (Below w.heap.size w V) := hV ▸ (Below.refl _ _).alloc (Nat.le_refl _) _
  have hV2 : w.alloc (.cells #[.int .i32 0, .int .i32 7, .int .i32 8, .int .i32 9, .int .i32 10, .int .i32 11, .int .i32 12, .int .i32 13, .int .i32 27, .int .i32 34, .int .i32 47, .int .i32 92, .int .i32 32, .int .i32 133, .int .i32 160, .int .i32 8232, .int .i32 8233] 21) = V := hV
  clear hv hV
  go_enter Tryd.func40, Tryd.ntmps40
  go_wp2_with fail
  clear hV2
  go_loop [2, 5] (fun r i => ∃ k : Nat, k ≤ 17 ∧ i = .int .i64 (k : Int) ∧ r = .int .i32 0 ∧ Hid ((((refL.drop k).find? (fun x => x.1 == c)).map (·.2)).getD (-1) = v)) (fun _ i => 17 - (intOf i).toNat)
  case atStart => exact ⟨0, by omega, rfl, rfl, HV.out⟩
  case round =>
    obtain ⟨k, hk, rfl, rfl, HK⟩ := hrel
    by_cases hlt : k < 17
    · have d : (k : Int) < 17 := by omega
      obtain ⟨x, r, hx, hcx, hrun⟩ := HAT.out k hlt
      have hst := refFind_step (fun x => x.1 == c) k (x, r) hx
      have hcell := HC.out k _ hcx
      have ix := hrun V
      clear hrun hx hcx
      by_cases hxc : x = c
      · have hv : v = r := by rw [← HK.out, hst]; simp [hxc]
        subst hv
        have ex : (x == c) = true := beq_iff_eq.2 hxc
        clear hst HK hxc
        go_wp2_with fail
        go_ret
        exact ⟨rfl, HB.out⟩
      · have HN : Hid ((((refL.drop (k + 1)).find? (fun x => x.1 == c)).map (·.2)).getD (-1) = v) := by
          show _ = v
          rw [← HK.out, hst]; simp [hxc]
        have ex : (x == c) = false := beq_eq_false_iff_ne.2 hxc
        clear hst HK hxc
        go_wp2_with fail
        go_round
        case rel => exact ⟨k + 1, by omega, by go_num, rfl, HN⟩
        case measure => simp [intOf]; omega
    · obtain rfl : k = 17 := by omega
      have hv : v = -1 := by rw [← HK.out]; rfl
      subst hv
      go_wp2_with fail
      go_ret
      exact ⟨rfl, HB.out⟩

theorem cellsB_1 (a : Int) : cellsB [a] = #[.int .u8 a] := rfl
/-- The bytes of a rune, in memory of its own. -/
theorem new_mk {w : World} (zs : List Int) (m : Nat) (hm : zs.length = m) (hm0 : m ≤ 100) : NewB w zs (.returned (.slice (some ⟨w.heap.size, 0, none⟩) m m)) (w.alloc (.cells (cellsB zs) 5)) :=
  ⟨_, m, m, rfl, hm, Nat.le_refl _, by omega, (fun h => by cases h), RdB.new rfl (fun k y hy => cellsB_at k y hy), (Below.refl _ _).alloc (Nat.le_refl _) _⟩
theorem i32_and63 (x : Int) (h₀ : 0 ≤ x) (h₁ : x < 2147483648) : bits .and .i32 x 63 = x % 64 := bits_mask .i32 31 (by decide) wraps_i32 6 (by decide) x h₀ h₁

end Go.Proofs.YtdjpdcjljpmfnaaDoor
