/- Runes by their number: digits cut, digits in small letters; bytes of our own that are written into. -/
import Derived.Test.YtgiloooandiokaaDoorDbLaw
import Derived.Test.YtgiloooandiokaaDoorDbFacts
namespace Go.Proofs.YtgiloooandiokaaDoor
open Go.RowKit
set_option linter.unusedVariables false

theorem hexF_split (b : Nat) : ∀ (a : Nat) (n : Int), hexF n (a + b) = hexF (n / 16 ^ b) a ++ hexF n b := by
  induction b with
  | zero => intro a n; simp [hexF]
  | succ b ih =>
    intro a n
    rw [show a + (b + 1) = (a + b) + 1 by omega, hexF, ih a (n / 16), hexF, List.append_assoc, Int.pow_succ', Int.ediv_ediv_of_nonneg (by omega)]
theorem hexF_drop (a b : Nat) (n : Int) : (hexF n (a + b)).drop a = hexF n b := by
  rw [hexF_split]
  exact List.drop_left' (hexF_len a _)
def lo (z : Int) : Int := if 65 ≤ z then z + 32 else z
theorem hexD_lo {z : Int} (h : (48 ≤ z ∧ z ≤ 57) ∨ (65 ≤ z ∧ z ≤ 70)) : hexD (lo z) = hexD z := by
  unfold lo hexD
  repeat' split
  all_goals first | omega | (congr 1; omega) | rfl
theorem hexV_lo : ∀ (l : List Int) (a : Int), (∀ z ∈ l, (48 ≤ z ∧ z ≤ 57) ∨ (65 ≤ z ∧ z ≤ 70)) → hexV a (l.map lo) = hexV a l := by
  intro l
  induction l with
  | nil => intro a _; rfl
  | cons z l ih =>
    intro a h
    simp only [List.map_cons, hexV]
    rw [hexD_lo (h z (by simp))]
    cases hexD z with
    | none => rfl
    | some d => exact ih _ (fun y hy => h y (by simp [hy]))
/-- Eight digits of n, in capitals or not. -/
def Digits (n : Int) (L : List Int) : Prop := L = hexF n 8 ∨ L = (hexF n 8).map lo
theorem Digits.len {n : Int} {L : List Int} (h : Digits n L) : L.length = 8 := by
  rcases h with rfl | rfl <;> simp [hexF_len]
theorem Digits.byte {n : Int} {L : List Int} (h : Digits n L) : Byte L := by
  rcases h with rfl | rfl
  · exact hexF_all n 8
  · intro z hz
    obtain ⟨y, hy, rfl⟩ := List.mem_map.1 hz
    have := hexF_byte 8 n y hy
    unfold lo
    split <;> omega
theorem Digits.val {n : Int} {L : List Int} (h : Digits n L) (h0 : 0 ≤ n) (a b : Nat) (hab : a + b = 8) : hexV 0 (L.drop a) = some (n % 16 ^ b) := by
  rcases h with rfl | rfl
  · rw [← hab, hexF_drop, hexV_F b n h0]
  · rw [← List.map_drop, ← hab, hexF_drop, hexV_lo _ _ (hexF_byte b n), hexV_F b n h0]
theorem take_num (n : Int) (d : Nat) (c : Int) (l : List Int) (hl : l.length = d) (hv : hexV 0 l = some n) (hc : ∀ t, escF (c :: t) = numF d (c :: t)) :
    takeD (34 :: 92 :: c :: (l ++ [34])) = if okR n = true then some (utfF n, 4 + d) else none := by
  rw [takeD_cons, dq_num n d c l [34] hl hv hc]
  split
  · rw [dq_quote]
    simp; omega
  · rfl
theorem take_x1 (z : Int) : takeD [34, 92, 120, z, 34] = none := by
  rw [takeD_cons]
  have h : escF [120, z, 34] = none := by
    rw [escF_x]
    unfold numF
    rw [if_neg (by simp)]
    have : hexV 0 ((([120, z, 34] : List Int).drop 1).take 2) = none := by
      simp only [List.drop, List.take, hexV]
      cases hexD z <;> rfl
    rw [this]; rfl
  rw [dq_bad _ h]; rfl
theorem bytes_free {w W : World} {s : ByteArray} {cap : Nat} (h : Bytes w s cap W) (k : Nat) (hk : k < s.size) : W.frozen? ⟨w.heap.size, k, none⟩ = false := by
  have := Lib.run_convert_string_bytes (P := Tryd.prog) w 9 26 5 s Tryd.underlying9 Tryd.underlying26 Tryd.underlying5
  rw [h.run] at this
  injection this with _ h2
  rw [h2]
  simp only [World.frozen?, Lib.bytesWorld_at_new, Lib.bytesCells]
  simp
  omega
theorem RdB.set {W : World} {g : Nat} {zs : List Int} (h : RdB W (some ⟨g, 0, none⟩) zs) (k : Nat) (hk : k < zs.length) (v : Int) : RdB (W.setCell ⟨g, k, none⟩ (.int .u8 v)) (some ⟨g, 0, none⟩) (zs.set k v) := by
  intro j z hz
  refine ⟨g, 0, rfl, ?_⟩
  rw [Nat.zero_add]
  have hcell : ∀ i y, zs[i]? = some y → W.cell? ⟨g, i, none⟩ = some (.int .u8 y) := by
    intro i y hy
    obtain ⟨b, off, e, hc⟩ := h i y hy
    injection e with e
    injection e with e1 e2
    subst e1 e2
    rwa [Nat.zero_add] at hc
  by_cases hjk : j = k
  · subst hjk
    rw [List.getElem?_set_self hk] at hz
    injection hz with hz
    subst hz
    exact World.cell?_setCell_same W _ _ (hcell j _ (getD_at hk))
  · rw [List.getElem?_set_ne (Ne.symm hjk)] at hz
    rw [World.cell?_setCell_other W _ _ _ (by intro e; injection e with e1 e2; omega)]
    exact hcell j z hz
def loK (zs : List Int) (k : Nat) : List Int := (zs.take k).map lo ++ zs.drop k
theorem loK_len (zs : List Int) (k : Nat) : (loK zs k).length = zs.length := by simp [loK]; omega
theorem loK_at (zs : List Int) (k : Nat) (h : k < zs.length) : (loK zs k)[k]? = some (zs.getD k 0) := by
  unfold loK
  rw [List.getElem?_append_right (by simp; omega)]
  simp only [List.length_map, List.length_take]
  rw [show k - min k zs.length = 0 by omega, drop_at zs k h]; rfl
theorem loK_step (zs : List Int) (k : Nat) (h : k < zs.length) : loK zs (k + 1) = (loK zs k).set k (lo (zs.getD k 0)) := by
  unfold loK
  rw [List.set_append_right _ _ (by simp; omega)]
  simp only [List.length_map, List.length_take]
  rw [show k - min k zs.length = 0 by omega, drop_at zs k h, List.take_add_one, getD_at h]
  simp
theorem loK_end (zs : List Int) : loK zs zs.length = zs.map lo := by unfold loK; simp
end Go.Proofs.YtgiloooandiokaaDoor
