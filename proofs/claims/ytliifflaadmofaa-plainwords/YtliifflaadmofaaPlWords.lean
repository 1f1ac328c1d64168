/- Words of letters with blanks between them, and what ends them: plain facts. -/
import Derived.Test.YtliifflaadmofaaPlLaw
namespace Go.Proofs.Ytliifflaadmofaa
open Go.RowKit
set_option linter.unusedVariables false

def Aln (z : Int) : Prop := (97 ≤ z ∧ z ≤ 122) ∨ (48 ≤ z ∧ z ≤ 57)
def Wordy (zs : List Int) : Prop := 0 < zs.length ∧ zs.getD 0 0 = 119 ∧ (∀ z ∈ zs, Aln z ∨ z = 32) ∧ zs.getD (zs.length - 1) 0 ≠ 32
theorem wordy_w : Wordy [119] := ⟨by decide, rfl, by intro z hz; simp at hz; subst hz; left; left; omega, by decide⟩
theorem wordy_more {zs ts : List Int} (h : Wordy zs) (ht : ∀ z ∈ ts, Aln z) (h0 : 0 < ts.length) : Wordy (zs ++ ([32] ++ ts)) := by
  obtain ⟨h1, h2, h3, h4⟩ := h
  refine ⟨by simp; omega, ?_, ?_, ?_⟩
  · rw [List.getD, List.getElem?_append_left h1]; exact h2
  · intro z hz
    rcases List.mem_append.1 hz with g | g
    · exact h3 z g
    · rcases List.mem_append.1 g with g | g
      · right; simpa using g
      · exact .inl (ht z g)
  · have e : (zs ++ ([32] ++ ts)).length - 1 = zs.length + (1 + (ts.length - 1)) := by simp; omega
    rw [e, List.getD, List.getElem?_append_right (by omega), Nat.add_sub_cancel_left, List.getElem?_append_right (by simp)]
    simp only [List.length_cons, List.length_nil, Nat.zero_add, Nat.add_sub_cancel_left]
    have hk : ts.length - 1 < ts.length := by omega
    have := ht _ (List.getElem_mem hk)
    rw [List.getElem?_eq_getElem hk]
    simp only [Option.getD_some]
    unfold Aln at this
    omega
theorem wordy_at {zs : List Int} (h : Wordy zs) (k : Nat) (hk : k < zs.length) : Aln (zs.getD k 0) ∨ zs.getD k 0 = 32 := h.2.2.1 _ (List.mem_of_getElem? (getD_at hk))
theorem flo_no {z : Int} (h : Aln z ∨ z = 32) : flo z = false ∧ (z == 9) = false ∧ (z == 58) = false ∧ (z == 35) = false := by
  refine ⟨?_, ?_, ?_, ?_⟩
  · unfold flo
    rw [Bool.eq_false_iff]
    intro hc
    rw [List.contains_iff_mem] at hc
    simp only [List.mem_cons, List.not_mem_nil, or_false] at hc
    unfold Aln at h
    omega
  all_goals (apply beq_eq_false_iff_ne.2; unfold Aln at h; omega)
theorem getD_left {zs ys : List Int} {k : Nat} (h : k < zs.length) : (zs ++ ys).getD k 0 = zs.getD k 0 := by
  rw [List.getD, List.getElem?_append_left h]; rfl
theorem getD_right {zs ys : List Int} (k : Nat) : (zs ++ ys).getD (zs.length + k) 0 = ys.getD k 0 := by
  rw [List.getD, List.getElem?_append_right (by omega), Nat.add_sub_cancel_left]; rfl
theorem end_no {zs : List Int} {fl : Bool} {k : Nat} (h : Aln (zs.getD k 0) ∨ zs.getD k 0 = 32) : endF zs fl k = false := by
  obtain ⟨h1, h2, h3, h4⟩ := flo_no h
  unfold endF endC
  rw [h1, h2, h3, h4]
  simp
theorem wordy_start {zs ys : List Int} {fl : Bool} (h : Wordy zs) : startF (zs ++ ys) fl = true := by
  obtain ⟨h1, h2, h3, h4⟩ := h
  have hx : (zs ++ ys).getD 0 0 = 119 := by rw [getD_left h1]; exact h2
  have hd : docF (zs ++ ys) = false := by
    match zs, h1, h2 with
    | c :: t, _, h2 =>
      have : c = 119 := h2
      subst this
      unfold docF
      simp
  have hl : ¬ (zs ++ ys).length = 0 := by rw [List.length_append]; omega
  have hno : noF (zs ++ ys) = false := by
    unfold noF
    rw [hx, hd, decide_eq_false hl]
    decide
  rw [start_yes hno, hx]
  rfl
/-- What ends words: blanks, then the end, or what ends a plain scalar whatever stands ahead. -/
def Good (fl : Bool) (ys : List Int) : Prop := ∃ j, j ≤ ys.length ∧ (∀ i, i < j → ys.getD i 0 = 32) ∧ (j = ys.length ∨ ∀ zs : List Int, 0 < zs.length → endF (zs ++ ys) fl (zs.length + j) = true)
theorem len_words {zs ys : List Int} {fl : Bool} (h : Wordy zs) (hg : Good fl ys) : lenF (zs ++ ys) fl = zs.length := by
  obtain ⟨j, h1, h2, h3⟩ := hg
  have hs := wordy_start (ys := ys) (fl := fl) h
  have hat : ∀ i, i < zs.length + j → Aln ((zs ++ ys).getD i 0) ∨ (zs ++ ys).getD i 0 = 32 := by
    intro i hi
    rcases Nat.lt_or_ge i zs.length with g | g
    · rw [getD_left g]; exact wordy_at h i g
    · obtain ⟨q, rfl⟩ : ∃ q, i = zs.length + q := ⟨i - zs.length, by omega⟩
      rw [getD_right]; exact .inr (h2 q (by omega))
  rw [lenF_at hs (zs.length + j) (by simp; omega) (fun i hi => end_no (hat i hi)) (by
    rcases h3 with h3 | h3
    · left; simp; omega
    · right; exact h3 zs h.1)]
  refine trimF_at _ _ _ (by omega) (fun _ => ?_) (fun i g1 g2 => ?_)
  · rw [getD_left (by have := h.1; omega)]; exact h.2.2.2
  · obtain ⟨q, rfl⟩ : ∃ q, i = zs.length + q := ⟨i - zs.length, by omega⟩
    rw [getD_right]; exact h2 q (by omega)
theorem wordy_valid {zs : List Int} {fl : Bool} (h : Wordy zs) : validF zs fl = true := by
  have hl : lenF zs fl = zs.length := by
    have := len_words (ys := []) (fl := fl) h ⟨0, by simp, fun i hi => by omega, .inl rfl⟩
    simpa using this
  unfold validF
  rw [hl, decide_eq_true h.1, decide_eq_true rfl, inF_ascii false zs (fun z hz => by rcases h.2.2.1 z hz with g | g <;> (try unfold Aln at g) <;> omega) _ (Nat.le_refl _)]
  rfl
theorem good_colon (fl : Bool) (tl : List Int) : Good fl (58 :: 32 :: tl) := by
  refine ⟨0, by simp, fun i hi => by omega, .inr fun zs hz => ?_⟩
  unfold endF endC joinF
  rw [getD_right, Nat.add_zero, getD_drop, show zs.length + 1 + 0 = zs.length + 1 by omega, getD_right]
  simp [blk]
theorem good_colon_end (fl : Bool) : Good fl [58] := by
  refine ⟨0, by simp, fun i hi => by omega, .inr fun zs hz => ?_⟩
  unfold endF endC joinF
  rw [getD_right, Nat.add_zero]
  simp
theorem good_note (fl : Bool) (tl : List Int) : Good fl (32 :: 35 :: tl) := by
  refine ⟨1, by simp, fun i hi => by obtain rfl : i = 0 := by omega
                                     rfl, .inr fun zs hz => ?_⟩
  unfold endF endC
  rw [getD_right, show zs.length + 1 - 1 = zs.length + 0 by omega, getD_right]
  simp
theorem good_blanks (fl : Bool) : Good fl [32, 32] := ⟨2, by simp, fun i hi => by
  have : i = 0 ∨ i = 1 := by omega
  rcases this with rfl | rfl <;> rfl, .inl rfl⟩
theorem good_notes (fl : Bool) (tl : List Int) : Good fl (32 :: 32 :: 32 :: 35 :: tl) := by
  refine ⟨3, by simp, fun i hi => ?_, .inr fun zs hz => ?_⟩
  · have : i = 0 ∨ i = 1 ∨ i = 2 := by omega
    rcases this with rfl | rfl | rfl <;> rfl
  · unfold endF endC
    rw [getD_right, show zs.length + 3 - 1 = zs.length + 2 by omega, getD_right]
    simp
theorem good_tab (fl : Bool) (tl : List Int) : Good fl (9 :: tl) := by
  refine ⟨0, by simp, fun i hi => by omega, .inr fun zs hz => ?_⟩
  unfold endF endC
  rw [getD_right]
  simp
theorem good_flow (q : Int) (hq : flo q = true) (tl : List Int) : Good true (q :: tl) := by
  refine ⟨0, by simp, fun i hi => by omega, .inr fun zs hz => ?_⟩
  unfold endF endC
  rw [getD_right]
  simp [hq]
def stops6 : Array Value := #[.string ⟨#[58, 32]⟩, .string ⟨#[32, 35]⟩, .string ⟨#[58]⟩, .string ⟨#[32, 32]⟩, .string ⟨#[32, 32, 32, 35, 32]⟩, .string ⟨#[9]⟩]
def stops5 : Array Value := #[.string ⟨#[44]⟩, .string ⟨#[93]⟩, .string ⟨#[125]⟩, .string ⟨#[123]⟩, .string ⟨#[91]⟩]
theorem stops_at (k : Nat) (hk : k < 6) : ∃ st : ByteArray, stops6[k]? = some (.string st) ∧ st.size ≤ 5 ∧
    ((st.toList = [58] ∧ byt st = [58]) ∨ (st.toList = [32, 32] ∧ byt st = [32, 32]) ∨ (¬ st.toList = [58] ∧ ¬ st.toList = [32, 32] ∧ ∀ fl tl, Good fl (byt st ++ tl))) := by
  match k, hk with
  | 0, _ => exact ⟨⟨#[58, 32]⟩, rfl, by decide, .inr (.inr ⟨by decide +kernel, by decide +kernel, fun fl tl => good_colon fl tl⟩)⟩
  | 1, _ => exact ⟨⟨#[32, 35]⟩, rfl, by decide, .inr (.inr ⟨by decide +kernel, by decide +kernel, fun fl tl => good_note fl tl⟩)⟩
  | 2, _ => exact ⟨⟨#[58]⟩, rfl, by decide, .inl ⟨by decide +kernel, rfl⟩⟩
  | 3, _ => exact ⟨⟨#[32, 32]⟩, rfl, by decide, .inr (.inl ⟨by decide +kernel, rfl⟩)⟩
  | 4, _ => exact ⟨⟨#[32, 32, 32, 35, 32]⟩, rfl, by decide, .inr (.inr ⟨by decide +kernel, by decide +kernel, fun fl tl => good_notes fl (32 :: tl)⟩)⟩
  | 5, _ => exact ⟨⟨#[9]⟩, rfl, by decide, .inr (.inr ⟨by decide +kernel, by decide +kernel, fun fl tl => good_tab fl tl⟩)⟩
theorem flows_at (k : Nat) (hk : k < 5) : ∃ st : ByteArray, stops5[k]? = some (.string st) ∧ st.size ≤ 5 ∧ ∀ tl, Good true (byt st ++ tl) := by
  match k, hk with
  | 0, _ => exact ⟨⟨#[44]⟩, rfl, by decide, fun tl => good_flow 44 rfl tl⟩
  | 1, _ => exact ⟨⟨#[93]⟩, rfl, by decide, fun tl => good_flow 93 rfl tl⟩
  | 2, _ => exact ⟨⟨#[125]⟩, rfl, by decide, fun tl => good_flow 125 rfl tl⟩
  | 3, _ => exact ⟨⟨#[123]⟩, rfl, by decide, fun tl => good_flow 123 rfl tl⟩
  | 4, _ => exact ⟨⟨#[91]⟩, rfl, by decide, fun tl => good_flow 91 rfl tl⟩
end Go.Proofs.Ytliifflaadmofaa
