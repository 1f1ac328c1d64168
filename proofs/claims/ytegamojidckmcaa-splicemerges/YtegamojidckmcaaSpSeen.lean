/- Merged splices: the same ones, in order; a map of texts seen. -/
import Derived.Test.YtegamojidckmcaaSpSort
import Derived.Maps.Own
import Derived.Maps.Views
namespace Go.Proofs.Ytegamojidckmcaa
open Go.RowKit Go.Maps Go.ChangeMaps Go.WideMaps
set_option linter.unusedVariables false

/-! ### Texts of one letter -/
def chr (j : Nat) : ByteArray := strOfNums [97 + (j : Int)]
theorem chr_byt {j : Nat} (h : j < 100) : byt (chr j) = [97 + (j : Int)] := byt_strOfNums _ (by intro z hz; simp at hz; omega)
theorem chr_inj {i j : Nat} (hi : i < 100) (hj : j < 100) (h : chr i = chr j) : i = j := by
  have := congrArg byt h
  rw [chr_byt hi, chr_byt hj] at this
  simp at this
  omega
def gT (x : Sp) : Int := (byt x.s).getD 0 0
/-- Splices whose texts are the letters, in order. -/
def Lettered (e : List Sp) : Prop := e.length ≤ 6 ∧ ∀ j, j < e.length → (spAt e j).s = chr j
theorem let_g {e : List Sp} (h : Lettered e) {j : Nat} (hj : j < e.length) : gT (spAt e j) = 97 + (j : Int) := by
  unfold gT
  rw [h.2 j hj, chr_byt (by have := h.1; omega)]
  rfl
theorem let_sorted {e : List Sp} (h : Lettered e) : (mergeUp e e.length).Pairwise (lt3 gT) :=
  merge_sorted gT e (fun i j hij hj => by rw [let_g h (by omega), let_g h hj]; omega) e.length (Nat.le_refl _)
theorem let_at {e : List Sp} (h : Lettered e) {i : Nat} (hi : i < e.length) : ∃ q, q < e.length ∧ spAt (mergeUp e e.length) i = spAt e q := by
  have hp := merge_perm e e.length (Nat.le_refl _)
  rw [List.take_length] at hp
  have hm := hp.mem_iff.1 (spAt_mem (l := mergeUp e e.length) (k := i) (by rw [mergeUp_len]; exact hi))
  obtain ⟨q, hq, e2⟩ := List.getElem_of_mem hm
  refine ⟨q, hq, ?_⟩
  have := spAt_some hq
  rw [List.getElem?_eq_getElem hq, e2] at this
  injection this
theorem let_apart {e : List Sp} (h : Lettered e) {i j : Nat} (hij : i < j) (hj : j < e.length) : (spAt (mergeUp e e.length) i).s ≠ (spAt (mergeUp e e.length) j).s := by
  intro heq
  have hnd : (e.map Sp.s).Nodup := by
    rw [List.nodup_iff_pairwise_ne, List.pairwise_map, List.pairwise_iff_getElem]
    intro a b ha hb hab he
    have e1 := spAt_some ha
    have e2 := spAt_some hb
    rw [List.getElem?_eq_getElem ha] at e1
    rw [List.getElem?_eq_getElem hb] at e2
    injection e1 with e1
    injection e2 with e2
    rw [e1, e2, h.2 a ha, h.2 b hb] at he
    have := chr_inj (by have := h.1; omega) (by have := h.1; omega) he
    omega
  have hp := (merge_perm e e.length (Nat.le_refl _)).map Sp.s
  rw [List.take_length] at hp
  have hnd2 := hp.nodup_iff.2 hnd
  rw [List.nodup_iff_pairwise_ne, List.pairwise_map] at hnd2
  exact pair_at hnd2 hij (by rw [mergeUp_len]; exact hj) heq

theorem chr_size {q : Nat} (h : q < 6) : (chr q).size = 1 := by
  have := byt_len (chr q)
  rw [chr_byt (by omega)] at this
  simpa using this.symm
theorem chr_one (q : Nat) (h : q < 6) : ∃ c : UInt8, chr q = ⟨#[c]⟩ ∧ (c.toNat : Int) = 97 + (q : Int) := by
  have h' : ∀ q, q < 6 → chr q = ⟨#[UInt8.ofNat (97 + q)]⟩ ∧ ((UInt8.ofNat (97 + q)).toNat : Int) = 97 + (q : Int) := by decide
  exact ⟨_, h' q h⟩
theorem chr_index (q : Nat) (hq : q < 6) (V : World) : (Instr.index 9 (.string (chr q)) (.int .i64 0)).run Try.prog V = .ok (.int .u8 (97 + (q : Int))) V := by
  obtain ⟨c, h1, h2⟩ := chr_one q hq
  rw [h1]
  simp [go_sem, Try.underlying9]
  exact h2
theorem chr_geq (p : Nat) (hp : p < 6) (q : Nat) (hq : q < 6) (hpq : p < q) (V : World) : (binOp .geq 9 (.string (chr p)) (.string (chr q))).run Try.prog V = .ok (.bool false) V := by
  obtain ⟨c, h1, h2⟩ := chr_one p hp
  obtain ⟨d, h3, h4⟩ := chr_one q hq
  rw [h1, h3]
  have hcd : c < d := by
    rw [UInt8.lt_iff_toNat_lt]; omega
  simp [go_sem]
  simp [Op.bytesLess, hcd]
theorem chr_less (p : Nat) (hp : p < 6) (q : Nat) (hq : q < 6) (hpq : p < q) : Op.bytesLess (chr p).data.toList (chr q).data.toList = true ∧ Op.bytesLess (chr p).toList (chr q).toList = true := by
  obtain ⟨c, h1, h2⟩ := chr_one p hp
  obtain ⟨d, h3, h4⟩ := chr_one q hq
  rw [h1, h3]
  have hcd : c < d := by
    rw [UInt8.lt_iff_toNat_lt]; omega
  constructor
  · simp [Op.bytesLess, hcd]
  · rw [ByteArray.toList_eq, ByteArray.toList_eq]
    simp [Op.bytesLess, hcd]
/-! ### A map of texts seen -/
theorem lawS : Keyed Try.prog 9 := string_keyed Try.underlying9
theorem zeroB (w : World) : (zeroValue 4).run Try.prog w = .ok (.bool false) w := by kernel_rfl
def keyS (s : ByteArray) : Lit := .string s.data.toList
def Seen (W : World) (B n : Nat) (S : ByteArray → Prop) : Prop :=
  ∃ D : DataW Unit, W.ownsMap Try.prog 9 (plainElem Try.prog 4) B n D ∧ ∀ s, ¬ S s → D.atKey (keyS s) (.lit (.bool false)) = .lit (.bool false)
theorem seen_look {W : World} {B n : Nat} {S : ByteArray → Prop} (h : Seen W B n S) (s : ByteArray) (hs : s.size ≤ 1000) (hn : ¬ S s) :
    (Instr.lookup 36 (.map (some B)) (.string s) false).run Try.prog W = .ok (.bool false) W := by
  obtain ⟨D, hown, hD⟩ := h
  obtain ⟨v, ps, hrun, hv⟩ := hown.lookup lawS Try.underlying36 (zeroB W) (plainElem_bool Try.underlying4 false) (keyOf_string_mk (s := s) Try.underlying9 (by unfold maxLen; omega))
  have e : D.atKey (.string s.data.toList) (.lit (.bool false)) = .lit (.bool false) := hD s hn
  rw [e] at hv
  unfold plainElem at hv
  rw [Try.underlying4] at hv
  cases v <;> simp at hv
  obtain ⟨rfl, _⟩ := hv
  exact hrun
theorem seen_put {W : World} {B n : Nat} {S : ByteArray → Prop} (h : Seen W B n S) (s : ByteArray) (hs : s.size ≤ 1000) (hn : n ≤ 1000) :
    ∃ W', (Instr.mapUpdate 36 (.map (some B)) (.string s) (.bool true)).run Try.prog W = .ok () W' ∧ Seen W' B (n + 1) (fun t => S t ∨ t = s) ∧ W.grownBy W' (some B) := by
  obtain ⟨D, hown, hD⟩ := h
  obtain ⟨W', hrun, hown', hg⟩ := hown.update lawS Try.underlying36 (by unfold maxLen; omega) (keyOf_string_mk (s := s) Try.underlying9 (by unfold maxLen; omega)) (plainElem_bool Try.underlying4 true)
  refine ⟨W', hrun, ⟨_, hown', fun t ht => ?_⟩, hg⟩
  have hne : keyS t ≠ .string s.data.toList := by
    intro he
    unfold keyS at he
    injection he with he
    exact ht (.inr (ByteArray.ext (Array.toList_inj.1 he)))
  rw [atKey_put_other hne]
  exact hD t fun h => ht (.inl h)
theorem seen_new (w : World) : Seen (w.alloc (.map #[] 0)) w.heap.size 0 (fun _ => False) :=
  ⟨.map [], World.ownsMap_made _ _ _ _, fun s _ => rfl⟩
theorem Seen.mono {W : World} {B n : Nat} {S S' : ByteArray → Prop} (h : Seen W B n S) (hs : ∀ s, S s → S' s) : Seen W B n S' := by
  obtain ⟨D, hown, hD⟩ := h
  exact ⟨D, hown, fun s hn => hD s fun h => hn (hs s h)⟩
theorem Seen.kept {W W' : World} {B n : Nat} {S : ByteArray → Prop} (h : Seen W B n S) {row : Option Nat} (hg : W.grownBy W' row) (hne : some B ≠ row) : Seen W' B n S := by
  obtain ⟨D, hown, hD⟩ := h
  exact ⟨D, hown.kept hg hne, hD⟩
end Go.Proofs.Ytegamojidckmcaa
