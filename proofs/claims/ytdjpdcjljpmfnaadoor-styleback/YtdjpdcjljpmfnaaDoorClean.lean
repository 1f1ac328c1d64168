/- Texts of runes that are all printable, without breaks (and tabs, or not): the plain function; the document's answers 'clean' and 'in'; strings.IndexByte. -/
import Derived.Test.YtdjpdcjljpmfnaaDoorCharsRef
import Derived.Lib.BytesEntry
namespace Go.Proofs.YtdjpdcjljpmfnaaDoor
open Go.RowKit
set_option linter.unusedVariables false

def badL (tabs : Bool) (zs : List Int) : Bool := !(runeF zs).2.2 || !prt (runeF zs).1 || (runeF zs).1 == 10 || (runeF zs).1 == 13 || ((runeF zs).1 == 9 && !tabs)
def inF (tabs : Bool) : Nat → List Int → Bool
  | 0, _ => true
  | f + 1, zs => if zs = [] then true else if badL tabs zs = true then false else inF tabs f (zs.drop (runeF zs).2.1.toNat)
theorem inF_fuel (tabs : Bool) : ∀ (f g : Nat) (zs : List Int), zs.length ≤ f → zs.length ≤ g → inF tabs f zs = inF tabs g zs := by
  intro f
  induction f with
  | zero =>
    intro g zs h1 h2
    have : zs = [] := List.eq_nil_of_length_eq_zero (by omega)
    subst this
    cases g <;> simp [inF]
  | succ f ih =>
    intro g zs h1 h2
    cases g with
    | zero =>
      have : zs = [] := List.eq_nil_of_length_eq_zero (by omega)
      subst this
      simp [inF]
    | succ g =>
      simp only [inF]
      split
      · rfl
      · rename_i hne
        split
        · rfl
        · have := runeF_n zs hne
          exact ih g _ (by rw [List.length_drop]; omega) (by rw [List.length_drop]; omega)
theorem inF_bad (tabs : Bool) (n : Nat) (zs : List Int) (h1 : zs.length ≤ n) (hne : zs ≠ []) (hb : badL tabs zs = true) : inF tabs n zs = false := by
  cases n with
  | zero => exact absurd (List.eq_nil_of_length_eq_zero (by omega)) hne
  | succ n => simp only [inF]; rw [if_neg hne, if_pos hb]
theorem inF_good (tabs : Bool) (n : Nat) (zs : List Int) (h1 : zs.length ≤ n) (hne : zs ≠ []) (hb : badL tabs zs = false) : inF tabs n zs = inF tabs n (zs.drop (runeF zs).2.1.toNat) := by
  cases n with
  | zero => exact absurd (List.eq_nil_of_length_eq_zero (by omega)) hne
  | succ n =>
    have := runeF_n zs hne
    rw [inF, if_neg hne, if_neg (by simp [hb])]
    exact inF_fuel tabs _ _ _ (by rw [List.length_drop]; omega) (by rw [List.length_drop]; omega)
theorem inF_nil (tabs : Bool) (n : Nat) : inF tabs n [] = true := by cases n <;> simp [inF]
/-- One round: the rune at k, and what is left. -/
theorem in_round (tabs : Bool) (n k : Nat) (zs : List Int) (hl : zs.length = n) (hk : k < n) : ∃ (r : Int) (j : Nat) (ok : Bool), runeF (zs.drop k) = (r, (j : Int), ok) ∧ 1 ≤ j ∧ k + j ≤ n ∧
    ((!ok || !prt r || r == 10 || r == 13 || (r == 9 && !tabs)) = true → inF tabs n (zs.drop k) = false) ∧
    ((!ok || !prt r || r == 10 || r == 13 || (r == 9 && !tabs)) = false → inF tabs n (zs.drop k) = inF tabs n (zs.drop (k + j))) := by
  have hne : zs.drop k ≠ [] := by intro h; have := congrArg List.length h; rw [List.length_drop] at this; simp at this; omega
  have hlen : (zs.drop k).length ≤ n := by rw [List.length_drop]; omega
  have hn := runeF_n _ hne
  rw [List.length_drop] at hn
  refine ⟨(runeF (zs.drop k)).1, (runeF (zs.drop k)).2.1.toNat, (runeF (zs.drop k)).2.2, ?_, by omega, by omega, ?_, ?_⟩
  · rw [Int.toNat_of_nonneg (by omega)]
  · exact fun h => inF_bad tabs n _ hlen hne h
  · intro h
    rw [inF_good tabs n _ hlen hne h, List.drop_drop]
/-- The ways of one round, test by test. -/
theorem in_ways (ok : Bool) (r : Int) : ok = false ∨ (ok = true ∧ prt r = false) ∨ (ok = true ∧ prt r = true ∧ r = 9) ∨ (ok = true ∧ prt r = true ∧ r = 10) ∨ (ok = true ∧ prt r = true ∧ r = 13) ∨
    (ok = true ∧ prt r = true ∧ (r == 9) = false ∧ (r == 10) = false ∧ (r == 13) = false) := by
  cases ok
  · exact .inl rfl
  · cases hp : prt r
    · exact .inr (.inl ⟨rfl, rfl⟩)
    · by_cases h9 : r = 9
      · exact .inr (.inr (.inl ⟨rfl, rfl, h9⟩))
      · by_cases h10 : r = 10
        · exact .inr (.inr (.inr (.inl ⟨rfl, rfl, h10⟩)))
        · by_cases h13 : r = 13
          · exact .inr (.inr (.inr (.inr (.inl ⟨rfl, rfl, h13⟩))))
          · exact .inr (.inr (.inr (.inr (.inr ⟨rfl, rfl, beq_eq_false_iff_ne.2 h9, beq_eq_false_iff_ne.2 h10, beq_eq_false_iff_ne.2 h13⟩))))
theorem inF_ascii (tabs : Bool) : ∀ (zs : List Int), (∀ z ∈ zs, 32 ≤ z ∧ z < 127) → ∀ n, zs.length ≤ n → inF tabs n zs = true := by
  intro zs
  induction zs with
  | nil => intro _ n _; exact inF_nil tabs n
  | cons c t ih =>
    intro h n hn
    have hc := h c (by simp)
    have hr := runeF_ascii c t (by omega) (by omega)
    have hp : prt c = true := by
      unfold prt surr
      rw [if_neg (by omega), if_neg (by omega), if_neg (by omega), decide_eq_true (by omega), decide_eq_false (show ¬ 55296 ≤ c by omega)]
      rfl
    have hb : badL tabs (c :: t) = false := by
      unfold badL
      rw [hr]
      simp [hp]
      omega
    rw [inF_good tabs n (c :: t) hn (by simp) hb, hr]
    exact ih (fun z hz => h z (by simp [hz])) n (by simp at hn; omega)

theorem contains_byt (s : ByteArray) (c : Int) (h0 : 0 ≤ c) (h1 : c < 256) : (byt s).contains c = s.data.toList.contains c.toNat.toUInt8 := by
  unfold byt
  apply bool_iff
  simp only [List.contains_iff_mem, List.mem_map]
  constructor
  · rintro ⟨u, hu, rfl⟩
    have : ((u.toNat : Int)).toNat.toUInt8 = u := by
      apply UInt8.toNat_inj.1
      simp
    rw [this]; exact hu
  · intro h
    refine ⟨_, h, ?_⟩
    have : (c.toNat.toUInt8).toNat = c.toNat := by simp; omega
    rw [this]; omega
theorem ix_mem : ∀ (l : List UInt8) (c : UInt8), 0 ≤ Lib.indexByte l c ↔ c ∈ l := by
  intro l c
  induction l with
  | nil => simp [Lib.indexByte]
  | cons b l ih =>
    have hg := Lib.indexByte_ge l c
    unfold Lib.indexByte
    by_cases hb : b = c
    · subst hb; simp
    · have e1 : (b == c) = false := beq_eq_false_iff_ne.2 hb
      have e2 : ¬ c = b := fun h => hb h.symm
      simp only [e1, List.mem_cons, e2, Bool.false_eq_true, if_false, false_or, ← ih]
      by_cases h : Lib.indexByte l c = -1
      · rw [h]; simp
      · have e3 : (Lib.indexByte l c == -1) = false := beq_eq_false_iff_ne.2 h
        rw [e3]; simp only [Bool.false_eq_true, if_false]
        omega
theorem ix_has (l : List UInt8) (c : UInt8) : decide (0 ≤ Lib.indexByte l c) = l.contains c := by
  apply bool_iff
  rw [decide_eq_true_eq, List.contains_iff_mem]
  exact ix_mem l c
/-- strings.IndexByte, as far as its sign goes. -/
def SignP (b : Bool) (w : World) (e : Ending) (w' : World) : Prop := ∃ v : Int, decide (0 ≤ v) = b ∧ e = .returned (.int .i64 v) ∧ w = w'
set_option maxRecDepth 100000 in
set_option maxHeartbeats 400000 in
theorem indexByteS_any (s : ByteArray) (c : Int) (h0 : 0 ≤ c) (h1 : c < 256) (w : World) :
    Calls Tryd.prog 70 #[.string s, .int .u8 c] w (SignP ((byt s).contains c) w) := by
  have hrun := Lib.run_indexByteString (P := Tryd.prog) s c w
  have hv := ix_has s.data.toList c.toNat.toUInt8
  rw [← contains_byt s c h0 h1] at hv
  have HV := Lib.hid hv
  clear hv
  generalize Lib.indexByte s.data.toList c.toNat.toUInt8 = v at *
  have lite : Calls Tryd.prog 80 #[.string s, .int .u8 c] w fun e w' => e = .returned (.int .i64 v) ∧ w = w' := by
    go_enter Tryd.func80, Tryd.ntmps80
    go_wp2
    rw [run_callFunc_extern Tryd.func87 (by kernel_rfl) (by kernel_rfl) (by kernel_rfl) (e := Extern.BytealgIndexByte.indexByte) (by kernel_rfl), hrun]
    simp only [Result.andThen]
    rw [Oper.upon_value]
    go_wp2
    go_ret
    exact ⟨rfl, rfl⟩
  have L := Lib.hid lite
  clear lite hrun
  go_enter Tryd.func70, Tryd.ntmps70
  go_wp2_with (go_at_call 80; refine L.out.mono ?_; rintro e w' ⟨rfl, rfl⟩)
  go_ret
  exact ⟨v, HV.out, rfl, rfl⟩

/-- A byte among a text's. -/
def hasB (s : ByteArray) (c : Int) : Bool := (byt s).contains c
set_option maxHeartbeats 400000 in
theorem refIn_any (c : Int) (s : ByteArray) (w : World) (hs : s.size ≤ 1000000) (v : Bool) (hv : (byt s).contains c = v) :
    Calls Tryd.prog 63 #[.int .u8 c, .string s] w fun e w' => e = .returned (.bool v) ∧ w = w' := by
  have HV := Lib.hid hv
  clear hv
  go_enter Tryd.func63, Tryd.ntmps63
  go_wp2
  go_loop [4, 5] (fun r i => ∃ k : Nat, k ≤ s.size ∧ i = .int .i64 k ∧ r = .bool false ∧ Hid (∀ j, j < k → ((byt s).getD j 0 == c) = false)) (fun _ i => s.size - (intOf i).toNat)
  case atStart => exact ⟨0, Nat.zero_le _, rfl, rfl, fun j hj => by omega⟩
  case round =>
    obtain ⟨k, hk, rfl, rfl, HA⟩ := hrel
    by_cases hlt : k < s.size
    · have hat := byt_at s k hlt
      have hgd : (byt s).getD k 0 = (s[k].toNat : Int) := by simp [List.getD, hat]
      by_cases he : (s[k].toNat : Int) = c
      · have hv : v = true := by rw [← HV.out, List.contains_iff_mem, ← he]; exact List.mem_of_getElem? hat
        have hd : ((s[k].toNat : Int) == c) = true := beq_iff_eq.2 he
        subst hv
        clear he hgd hat
        go_wp2
        go_ret
        exact ⟨rfl, rfl⟩
      · have hd : ((s[k].toNat : Int) == c) = false := beq_eq_false_iff_ne.2 he
        have hn : ∀ j, j < k + 1 → ((byt s).getD j 0 == c) = false := by
          intro j hj
          rcases Nat.lt_succ_iff_lt_or_eq.1 hj with h | h
          · exact HA.out j h
          · subst h; rw [hgd]; exact hd
        have HN := Lib.hid hn
        clear he hgd hat hn
        go_wp2
        go_round
        case rel => exact ⟨k + 1, by omega, by go_num, rfl, HN⟩
        case measure => simp [intOf]; omega
    · have hv : v = false := by
        rw [← HV.out]
        apply Bool.eq_false_iff.2
        intro h
        rw [List.contains_iff_mem] at h
        obtain ⟨j, hj, he⟩ := List.mem_iff_getElem.1 h
        have := HA.out j (by rw [byt_len] at hj; omega)
        rw [show (byt s).getD j 0 = c by simp [List.getD, hj, he]] at this
        simp at this
      subst hv
      go_wp2
      go_ret
      exact ⟨rfl, rfl⟩
theorem refIn_has (c : Int) (s : ByteArray) (w : World) (hs : s.size ≤ 1000000) :
    Calls Tryd.prog 63 #[.int .u8 c, .string s] w fun e w' => e = .returned (.bool (hasB s c)) ∧ w = w' := refIn_any c s w hs _ rfl
end Go.Proofs.YtdjpdcjljpmfnaaDoor
