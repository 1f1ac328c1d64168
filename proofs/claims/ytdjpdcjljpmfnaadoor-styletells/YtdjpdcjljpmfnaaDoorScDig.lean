/- The document's digits. -/
import Derived.Test.YtdjpdcjljpmfnaaDoorScRef
namespace Go.Proofs.YtdjpdcjljpmfnaaDoor
open Go.RowKit
set_option linter.unusedVariables false

/-- How many bytes at a text's beginning are in a set. -/
def digN (cs l : List UInt8) : Nat := (l.takeWhile (cs.contains ·)).length
theorem digN_drop (cs l : List UInt8) : l.drop (digN cs l) = trmF cs l := by
  have h := trmF_take cs l
  have : (l.takeWhile (cs.contains ·) ++ trmF cs l).drop (digN cs l) = trmF cs l := by rw [digN, List.drop_left]
  rwa [h] at this
theorem digN_le (cs l : List UInt8) : digN cs l + (trmF cs l).length = l.length := by
  have := congrArg List.length (trmF_take cs l)
  rwa [List.length_append] at this
theorem digN_stop (cs l : List UInt8) (k : Nat) (h1 : (l.take k).all (cs.contains ·) = true) (hk : k ≤ l.length) (h2 : ∀ x, l[k]? = some x → cs.contains x = false) : digN cs l = k := by
  induction k generalizing l with
  | zero =>
    cases l with
    | nil => rfl
    | cons c t => have := h2 c rfl; simp only [digN, List.takeWhile_cons, this]; rfl
  | succ k ih =>
    cases l with
    | nil => simp at hk
    | cons c t =>
      rw [List.take_succ_cons, List.all_cons, Bool.and_eq_true] at h1
      have := ih t h1.2 (by simpa using hk) (fun x hx => h2 x (by simpa using hx))
      unfold digN at this ⊢
      rw [List.takeWhile_cons, if_pos h1.1, List.length_cons, this]
theorem all_step (cs l : List UInt8) (k : Nat) (x : UInt8) (hx : l[k]? = some x) (h1 : (l.take k).all (cs.contains ·) = true) (h2 : cs.contains x = true) : (l.take (k + 1)).all (cs.contains ·) = true := by
  rw [List.take_add_one, hx, List.all_append, h1]
  simpa using h2

def BaseOk (base : Int) (cs : List UInt8) : Prop := (base = 8 ∧ cs = octD) ∨ (base = 10 ∧ cs = tenD) ∨ (base = 16 ∧ cs = hexU)
/-- A byte's worth as a digit; 99: none. -/
def worth (c : Nat) : Nat := if 48 ≤ c ∧ c ≤ 57 then c - 48 else if 97 ≤ c ∧ c ≤ 102 then c - 97 + 10 else if 65 ≤ c ∧ c ≤ 70 then c - 65 + 10 else 99
theorem worth_all : ∀ n : Fin 256, octD.contains (UInt8.ofNat n.val) = decide (worth n.val < 8) ∧ tenD.contains (UInt8.ofNat n.val) = decide (worth n.val < 10) ∧ hexU.contains (UInt8.ofNat n.val) = decide (worth n.val < 16) := by decide +kernel
theorem worth_in {base : Int} {cs : List UInt8} (h : BaseOk base cs) (x : UInt8) : cs.contains x = decide ((worth x.toNat : Int) < base) := by
  have := worth_all ⟨x.toNat, x.toNat_lt⟩
  simp only [UInt8.ofNat_toNat] at this
  rcases h with ⟨rfl, rfl⟩ | ⟨rfl, rfl⟩ | ⟨rfl, rfl⟩
  · rw [this.1]; exact decide_eq_decide.2 (by omega)
  · rw [this.2.1]; exact decide_eq_decide.2 (by omega)
  · rw [this.2.2]; exact decide_eq_decide.2 (by omega)
/-- A byte as a digit: what it is worth, way by way. -/
theorem worth_ways {base : Int} {cs : List UInt8} (h : BaseOk base cs) (x : UInt8) : ∃ (c : Int) (v : Int), (x.toNat : Int) = c ∧ 0 ≤ c ∧ c < 256 ∧ (cs.contains x = decide (v < base)) ∧ 
    ((48 ≤ c ∧ c ≤ 57 ∧ v = c - 48) ∨ (97 ≤ c ∧ c ≤ 102 ∧ v = c - 97 + 10) ∨ (65 ≤ c ∧ c ≤ 70 ∧ v = c - 65 + 10) ∨ (c < 48 ∧ v = 99) ∨ (57 < c ∧ c < 65 ∧ v = 99) ∨ (70 < c ∧ c < 97 ∧ v = 99) ∨ (102 < c ∧ v = 99)) := by
  have hx := x.toNat_lt
  refine ⟨_, (worth x.toNat : Int), rfl, by omega, by omega, worth_in h x, ?_⟩
  unfold worth
  split
  · exact .inl ⟨by omega, by omega, by omega⟩
  · split
    · exact .inr (.inl ⟨by omega, by omega, by omega⟩)
    · split
      · exact .inr (.inr (.inl ⟨by omega, by omega, by omega⟩))
      · omega
set_option maxHeartbeats 2000000 in
set_option maxRecDepth 100000 in
theorem rdig_at {w W : World} (hb : Below w.heap.size w W) (s : ByteArray) (hs : s.size ≤ 1000000) (base : Int) (cs : List UInt8) (hbase : BaseOk base cs) (n : Nat) (hn : digN cs s.toList = n) :
    Calls Tryd.prog 61 #[.string s, .int .i64 base] W fun e w' => e = .returned (.int .i64 (n : Int)) ∧ Below w.heap.size w w' := by
  have HB := Lib.hid hb
  have HN := Lib.hid hn
  have HO := Lib.hid hbase
  have hb1 : 1 ≤ base ∧ base ≤ 16 := by rcases hbase with ⟨h, _⟩ | ⟨h, _⟩ | ⟨h, _⟩ <;> omega
  obtain ⟨hb1, hb2⟩ := hb1
  clear hb hn hbase
  go_enter Tryd.func61, Tryd.ntmps61
  go_wp2_with fail
  go_loopw [5] (fun v V => ∃ k : Nat, k ≤ s.size ∧ V = W ∧ v = .int .i64 (k : Int) ∧ Hid ((s.toList.take k).all (cs.contains ·) = true)) (fun v _ => s.size - (intOf v).toNat)
  case atStart => exact ⟨0, by omega, rfl, rfl, by show _ = _; simp⟩
  case round =>
    obtain ⟨k, hk, rfl, rfl, HA⟩ := hrel
    by_cases hlt : k < s.size
    · have hat := list_at s k hlt
      have hix : ∀ V, (Instr.index 9 (.string s) (.int .i64 (k : Int))).run Tryd.prog V = .ok (.int .u8 (s[k].toNat : Int)) V := by
        intro V
        rw [run_index_string V 9 s .i64 _ Tryd.underlying9, dif_pos (by omega)]
        simp
      generalize s[k] = x at hat hix
      obtain ⟨c, v, hc, hc0, hc1, hv, hw⟩ := worth_ways HO.out x
      rw [hc] at hix
      have dk : (k : Int) < (s.size : Int) := by omega
      clear hc
      by_cases hvb : v < base
      · have HA2 : Hid ((s.toList.take (k + 1)).all (cs.contains ·) = true) := all_step cs _ k x hat HA.out (by rw [hv]; exact decide_eq_true hvb)
        have hvb' : decide (base ≤ v) = false := decide_eq_false (by omega)
        clear hv hat
        rcases hw with ⟨h1, h2, rfl⟩ | ⟨h1, h2, rfl⟩ | ⟨h1, h2, rfl⟩ | ⟨h1, rfl⟩ | ⟨h1, h2, rfl⟩ | ⟨h1, h2, rfl⟩ | ⟨h1, rfl⟩
        · go_wp2_with fail
          go_roundw
          case rel => exact ⟨k + 1, by omega, by trivial, by go_num, HA2⟩
          case measure => simp [intOf]; omega
        · have g1 : decide (c ≤ 57) = false := decide_eq_false (by omega)
          have g2 : 48 ≤ c := by omega
          go_wp2_with fail
          go_roundw
          case rel => exact ⟨k + 1, by omega, by trivial, by go_num, HA2⟩
          case measure => simp [intOf]; omega
        · have g1 : decide (c ≤ 57) = false := decide_eq_false (by omega)
          have g2 : 48 ≤ c := by omega
          have g3 : decide (97 ≤ c) = false := decide_eq_false (by omega)
          go_wp2_with fail
          go_roundw
          case rel => exact ⟨k + 1, by omega, by trivial, by go_num, HA2⟩
          case measure => simp [intOf]; omega
        all_goals (exfalso; omega)
      · have HE : Hid (k = n) := by
          show _ = _
          rw [← HN.out]
          exact (digN_stop cs _ k HA.out (by rw [list_len]; omega) (fun y hy => by rw [hat] at hy; injection hy with hy; subst hy; rw [hv]; exact decide_eq_false hvb)).symm
        have hvb' : base ≤ v := by omega
        clear hv hat hvb
        rcases hw with ⟨h1, h2, rfl⟩ | ⟨h1, h2, rfl⟩ | ⟨h1, h2, rfl⟩ | ⟨h1, rfl⟩ | ⟨h1, h2, rfl⟩ | ⟨h1, h2, rfl⟩ | ⟨h1, rfl⟩
        · go_wp2_with fail
          go_ret
          exact ⟨ret_int (by rw [HE.out]), HB.out⟩
        · have g1 : decide (c ≤ 57) = false := decide_eq_false (by omega)
          have g2 : 48 ≤ c := by omega
          go_wp2_with fail
          go_ret
          exact ⟨ret_int (by rw [HE.out]), HB.out⟩
        · have g1 : decide (c ≤ 57) = false := decide_eq_false (by omega)
          have g2 : 48 ≤ c := by omega
          have g3 : decide (97 ≤ c) = false := decide_eq_false (by omega)
          go_wp2_with fail
          go_ret
          exact ⟨ret_int (by rw [HE.out]), HB.out⟩
        · have g1 : decide (48 ≤ c) = false := decide_eq_false (by omega)
          have g3 : decide (97 ≤ c) = false := decide_eq_false (by omega)
          have g4 : decide (65 ≤ c) = false := decide_eq_false (by omega)
          go_wp2_with fail
          go_ret
          exact ⟨ret_int (by rw [HE.out]), HB.out⟩
        · have g1 : decide (c ≤ 57) = false := decide_eq_false (by omega)
          have g2 : 48 ≤ c := by omega
          have g3 : decide (97 ≤ c) = false := decide_eq_false (by omega)
          have g4 : decide (65 ≤ c) = false := decide_eq_false (by omega)
          go_wp2_with fail
          go_ret
          exact ⟨ret_int (by rw [HE.out]), HB.out⟩
        · have g1 : decide (c ≤ 57) = false := decide_eq_false (by omega)
          have g2 : 48 ≤ c := by omega
          have g3 : decide (97 ≤ c) = false := decide_eq_false (by omega)
          have g4 : 65 ≤ c := by omega
          have g5 : decide (c ≤ 70) = false := decide_eq_false (by omega)
          go_wp2_with fail
          go_ret
          exact ⟨ret_int (by rw [HE.out]), HB.out⟩
        · have g1 : decide (c ≤ 57) = false := decide_eq_false (by omega)
          have g2 : 48 ≤ c := by omega
          have g3 : 97 ≤ c := by omega
          have g6 : decide (c ≤ 102) = false := decide_eq_false (by omega)
          have g4 : 65 ≤ c := by omega
          have g5 : decide (c ≤ 70) = false := decide_eq_false (by omega)
          go_wp2_with fail
          go_ret
          exact ⟨ret_int (by rw [HE.out]), HB.out⟩
    · obtain rfl : k = s.size := by omega
      have HE : Hid (s.size = n) := by
        show _ = _
        rw [← HN.out]
        exact (digN_stop cs _ s.size HA.out (by rw [list_len]; omega) (fun y hy => by have := (List.getElem?_eq_some_iff.1 hy).1; rw [list_len] at this; omega)).symm
      have d : decide ((s.size : Int) < (s.size : Int)) = false := decide_eq_false (by omega)
      go_wp2_with fail
      go_ret
      exact ⟨ret_int (by rw [HE.out]), HB.out⟩
end Go.Proofs.YtdjpdcjljpmfnaaDoor
