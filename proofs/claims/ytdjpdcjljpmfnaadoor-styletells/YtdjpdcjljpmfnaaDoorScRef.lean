/- The document's one, sign, digits, Null, Bool, Int. -/
import Derived.Test.YtdjpdcjljpmfnaaDoorScRes
import Derived.Test.YtdjpdcjljpmfnaaDoorBytes
namespace Go.Proofs.YtdjpdcjljpmfnaaDoor
open Go.RowKit
set_option linter.unusedVariables false

/-! ### one -/
def oneF (ls : List ByteArray) (l : List UInt8) : Bool := ls.any fun s => s.toList == l
theorem any_take (f : ByteArray → Bool) (ls : List ByteArray) (k : Nat) (s : ByteArray) (h : ls[k]? = some s) : (ls.take (k + 1)).any f = ((ls.take k).any f || f s) := by
  rw [List.take_add_one, h, List.any_append]
  simp
set_option maxHeartbeats 1000000 in
theorem one_at {w W : World} (hb : Below w.heap.size w W) (s : ByteArray) (ls : List ByteArray) (b n c : Nat) (hn : ls.length = n) (hc : n ≤ c) (hcm : c ≤ 1000000) (hcell : ∀ k v, ls[k]? = some v → W.cell? ⟨b, k, none⟩ = some (.string v)) (r : Bool) (hr : oneF ls s.toList = r) :
    Calls Tryd.prog 59 #[.string s, .slice (some ⟨b, 0, none⟩) n c] W (BoolP r w) := by
  have HB := Lib.hid hb
  have HC := Lib.hid hcell
  have HR := Lib.hid hr
  have HN := Lib.hid hn
  clear hb hcell hr hn
  go_enter Tryd.func59, Tryd.ntmps59
  go_wp2_with fail
  go_loopw [4, 8] (fun u v V => ∃ k : Nat, k ≤ n ∧ V = W ∧ u = .bool false ∧ v = .int .i64 (k : Int) ∧ Hid ((ls.take k).any (fun x => x.toList == s.toList) = false)) (fun _ v _ => n - (intOf v).toNat)
  case atStart => exact ⟨0, by omega, rfl, rfl, rfl, by show _ = _; simp⟩
  case round =>
    obtain ⟨k, hk, rfl, rfl, rfl, HA⟩ := hrel
    by_cases hlt : k < n
    · have hkl : k < ls.length := by rw [HN.out]; exact hlt
      obtain ⟨x, hx⟩ : ∃ x, ls[k]? = some x := ⟨_, List.getElem?_eq_getElem hkl⟩
      have hcl := HC.out k x hx
      have hst := any_take (fun x => x.toList == s.toList) ls k x hx
      have d : (k : Int) < (n : Int) := by omega
      cases he : (x.toList == s.toList) with
      | true =>
        have : r = true := by
          rw [← HR.out, oneF, List.any_eq_true]
          exact ⟨x, List.mem_of_getElem? hx, he⟩
        subst this
        clear hst hx HR
        go_wp2_with fail
        go_ret
        exact ⟨rfl, HB.out⟩
      | false =>
        have HA2 : Hid ((ls.take (k + 1)).any (fun x => x.toList == s.toList) = false) := by
          show _ = _; rw [hst, HA.out, he]; rfl
        clear hst hx
        go_wp2_with fail
        go_roundw
        case rel => exact ⟨k + 1, by omega, by trivial, by trivial, by go_num, HA2⟩
        case measure => simp [intOf]; omega
    · obtain rfl : k = n := by omega
      have : r = false := by rw [← HR.out, oneF, ← HA.out, List.take_of_length_le (by rw [HN.out]; omega)]
      subst this
      have d : decide ((k : Int) < (k : Int)) = false := decide_eq_false (by omega)
      clear HR
      go_wp2_with fail
      go_ret
      exact ⟨rfl, HB.out⟩

/-! ### Null, Bool -/
def ncs (ls : List ByteArray) : Array Value := (ls.map Value.string).toArray
theorem ncs_new (W : World) (ls : List ByteArray) (T : TypeId) : ∀ k v, ls[k]? = some v → (W.alloc (.cells (ncs ls) T)).cell? ⟨W.heap.size, k, none⟩ = some (.string v) := by
  intro k v h
  rw [World.cell?_alloc_mark]
  simp [ncs, h]
def nullL : List ByteArray := [⟨#[110, 117, 108, 108]⟩, ⟨#[78, 117, 108, 108]⟩, ⟨#[78, 85, 76, 76]⟩, ⟨#[126]⟩, ⟨#[]⟩]
def boolL : List ByteArray := [⟨#[116, 114, 117, 101]⟩, ⟨#[84, 114, 117, 101]⟩, ⟨#[84, 82, 85, 69]⟩, ⟨#[102, 97, 108, 115, 101]⟩, ⟨#[70, 97, 108, 115, 101]⟩, ⟨#[70, 65, 76, 83, 69]⟩]
def nanL : List ByteArray := [⟨#[46, 110, 97, 110]⟩, ⟨#[46, 78, 97, 78]⟩, ⟨#[46, 78, 65, 78]⟩]
def infL : List ByteArray := [⟨#[46, 105, 110, 102]⟩, ⟨#[46, 73, 110, 102]⟩, ⟨#[46, 73, 78, 70]⟩]
theorem beq_turn (a b : List UInt8) : (a == b) = (b == a) := by
  by_cases h : a = b
  · subst h; rfl
  · rw [beq_eq_false_iff_ne.2 h, beq_eq_false_iff_ne.2 (fun e => h e.symm)]
theorem empty_beq (l : List UInt8) : (l == []) = l.isEmpty := by cases l <;> rfl
theorem null_one (l : List UInt8) : oneF nullL l = nullF l := by
  simp only [oneF, nullL, List.any_cons, List.any_nil, Bool.or_false, Lib.toList_data, nullF, beq_turn _ l, empty_beq]
  cases l.isEmpty <;> simp [Bool.or_comm, Bool.or_left_comm]
theorem bool_one (l : List UInt8) : oneF boolL l = boolF l := by
  simp only [oneF, boolL, List.any_cons, List.any_nil, Bool.or_false, Lib.toList_data, boolF, beq_turn _ l, Bool.or_assoc]
theorem nan_one (l : List UInt8) : oneF nanL l = nanF l := by
  simp only [oneF, nanL, List.any_cons, List.any_nil, Bool.or_false, Lib.toList_data, nanF, beq_turn _ l, Bool.or_assoc]
theorem inf_one (l : List UInt8) : oneF infL l = infF l := by
  simp only [oneF, infL, List.any_cons, List.any_nil, Bool.or_false, Lib.toList_data, infF, beq_turn _ l, Bool.or_assoc]
set_option maxHeartbeats 1000000 in
theorem rnull_at {w W : World} (hb : Below w.heap.size w W) (s : ByteArray) (r : Bool) (hr : nullF s.toList = r) : Calls Tryd.prog 33 #[.string s] W (BoolP r w) := by
  have HB := Lib.hid hb
  have HR := Lib.hid hr
  have HB1 : Hid (Below w.heap.size w (W.alloc (.cells (ncs nullL) 9))) := hb.alloc hb.size _
  have HC := Lib.hid (ncs_new W nullL 9)
  clear hb hr
  go_enter Tryd.func33, Tryd.ntmps33
  go_wp2_with fail
  refine (one_at HB1.out s nullL W.heap.size 5 5 rfl (by omega) (by omega) HC.out r (by rw [null_one]; exact HR.out)).mono ?_
  rintro e w1 ⟨rfl, hb1⟩
  have HB2 := Lib.hid hb1
  clear hb1
  go_wp2_with fail
  go_ret
  exact ⟨rfl, HB2.out⟩
set_option maxHeartbeats 1000000 in
theorem rbool_at {w W : World} (hb : Below w.heap.size w W) (s : ByteArray) (r : Bool) (hr : boolF s.toList = r) : Calls Tryd.prog 34 #[.string s] W (BoolP r w) := by
  have HB := Lib.hid hb
  have HR := Lib.hid hr
  have HB1 : Hid (Below w.heap.size w (W.alloc (.cells (ncs boolL) 9))) := hb.alloc hb.size _
  have HC := Lib.hid (ncs_new W boolL 9)
  clear hb hr
  go_enter Tryd.func34, Tryd.ntmps34
  go_wp2_with fail
  refine (one_at HB1.out s boolL W.heap.size 6 6 rfl (by omega) (by omega) HC.out r (by rw [bool_one]; exact HR.out)).mono ?_
  rintro e w1 ⟨rfl, hb1⟩
  have HB2 := Lib.hid hb1
  clear hb1
  go_wp2_with fail
  go_ret
  exact ⟨rfl, HB2.out⟩

/-! ### sign -/
theorem u8_eq (x : UInt8) (k : UInt8) : (((x.toNat : Int)) == ((k.toNat : Nat) : Int)) = (x == k) := by
  have := u8_ne x k
  rw [bne] at this
  exact Bool.not_inj this
set_option maxHeartbeats 1000000 in
theorem rsign_at {w W : World} (hb : Below w.heap.size w W) (s : ByteArray) : Calls Tryd.prog 60 #[.string s] W (StrP (unsF s.toList) w) := by
  have HB := Lib.hid hb
  clear hb
  cases he : s.toList.isEmpty with
  | true =>
    go_enter Tryd.func60, Tryd.ntmps60
    go_wp2_with fail
    go_ret
    exact ⟨s, by rw [List.isEmpty_iff.1 he]; rfl, rfl, HB.out⟩
  | false =>
    obtain ⟨x, t, hl, h1, -, hu, hix⟩ := split_text s he
    obtain ⟨u, hue⟩ : ∃ u, s.extract 1 s.size = u := ⟨_, rfl⟩
    rw [hue] at hu
    have HL := Lib.hid hl
    have HU := Lib.hid hu
    have e1 := u8_eq x 45
    have e2 := u8_eq x 43
    simp only [show (((45 : UInt8).toNat : Nat) : Int) = 45 from rfl] at e1
    simp only [show (((43 : UInt8).toNat : Nat) : Int) = 43 from rfl] at e2
    clear hl hu
    by_cases h1' : x = 45
    · have H1 := Lib.hid h1'
      have e1' : ((x.toNat : Int) == 45) = true := by rw [e1]; exact beq_iff_eq.2 h1'
      clear e1 e2 h1'
      go_enter Tryd.func60, Tryd.ntmps60
      go_wp2_with fail
      go_ret
      exact ⟨u, by rw [HU.out, HL.out, unsF, if_pos (.inl H1.out)], rfl, HB.out⟩
    · have H1 := Lib.hid h1'
      have e1' : ((x.toNat : Int) == 45) = false := by rw [e1]; exact beq_eq_false_iff_ne.2 h1'
      clear e1 h1'
      by_cases h2' : x = 43
      · have H2 := Lib.hid h2'
        have e2' : ((x.toNat : Int) == 43) = true := by rw [e2]; exact beq_iff_eq.2 h2'
        clear e2 h2'
        go_enter Tryd.func60, Tryd.ntmps60
        go_wp2_with fail
        go_ret
        exact ⟨u, by rw [HU.out, HL.out, unsF, if_pos (.inr H2.out)], rfl, HB.out⟩
      · have H2 := Lib.hid h2'
        have e2' : ((x.toNat : Int) == 43) = false := by rw [e2]; exact beq_eq_false_iff_ne.2 h2'
        clear e2 h2'
        go_enter Tryd.func60, Tryd.ntmps60
        go_wp2_with fail
        go_ret
        exact ⟨s, by rw [HL.out, unsF, if_neg (by intro h; rcases h with h | h; exact H1.out h; exact H2.out h)], rfl, HB.out⟩
end Go.Proofs.YtdjpdcjljpmfnaaDoor
