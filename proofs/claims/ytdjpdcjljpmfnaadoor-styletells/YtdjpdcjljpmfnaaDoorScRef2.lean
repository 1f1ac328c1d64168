/- The document's Int; what Float comes to, by counts of digits. -/
import Derived.Test.YtdjpdcjljpmfnaaDoorScDig
import Derived.Deep.DeepCutAuto
namespace Go.Proofs.YtdjpdcjljpmfnaaDoor
open Go.RowKit
set_option linter.unusedVariables false

theorem allF_dig (cs l : List UInt8) : allF cs l = (!l.isEmpty && decide (digN cs l = l.length)) := by
  unfold allF
  congr 1
  have h := digN_le cs l
  cases ht : trmF cs l with
  | nil => rw [ht] at h; simp at h; exact (decide_eq_true h).symm
  | cons c t => rw [ht] at h; simp at h; exact (decide_eq_false (by omega)).symm
theorem pre2 (a b : UInt8) (l : List UInt8) : Lib.hasPrefix l [a, b] = (decide (2 ≤ l.length) && (l.take 2 == [a, b])) := (Lib.hasPrefix_of_take l [a, b]).symm
theorem int_ten (l : List UInt8) (h : allF tenD (unsF l) = true) : intF l = true := by
  have key : ∀ b : UInt8, tenD.contains b = false → Lib.hasPrefix l [48, b] = false := by
    intro b hb
    cases hp : Lib.hasPrefix l [48, b] with
    | false => rfl
    | true =>
      exfalso
      rw [pre2, Bool.and_eq_true, beq_iff_eq] at hp
      have hl : l = 48 :: b :: l.drop 2 := by
        have := List.take_append_drop 2 l
        rw [hp.2] at this
        exact this.symm
      rw [hl, unsF, if_neg (by decide), allF_all] at h
      simp only [List.all_cons, hb] at h
      simp at h
  rw [intF, key 111 (by decide), key 120 (by decide)]
  simpa using h
theorem trim_pre (a b : UInt8) (l : List UInt8) (h : Lib.hasPrefix l [a, b] = true) : Lib.trimPrefix l [a, b] = l.drop 2 := by
  rw [Lib.trimPrefix, if_pos h]; rfl
theorem int_oct (l : List UInt8) (h2 : 2 < l.length) (ht : l.take 2 = [48, 111]) : intF l = decide (digN octD (l.drop 2) = l.length - 2) := by
  have hp : Lib.hasPrefix l [48, 111] = true := by rw [pre2, decide_eq_true (by omega), ht]; rfl
  rw [intF, if_pos hp, trim_pre _ _ _ hp, allF_dig, List.length_drop]
  have : (l.drop 2).isEmpty = false := by
    cases hd : l.drop 2 with
    | nil => have := congrArg List.length hd; rw [List.length_drop] at this; simp at this; omega
    | cons _ _ => rfl
  rw [this]; rfl
theorem int_hex (l : List UInt8) (h2 : 2 < l.length) (ht : l.take 2 = [48, 120]) : intF l = decide (digN hexU (l.drop 2) = l.length - 2) := by
  have hp : Lib.hasPrefix l [48, 120] = true := by rw [pre2, decide_eq_true (by omega), ht]; rfl
  have hq : Lib.hasPrefix l [48, 111] = false := by rw [pre2, ht]; simp
  rw [intF, if_neg (by simp [hq]), if_pos hp, trim_pre _ _ _ hp, allF_dig, List.length_drop]
  have : (l.drop 2).isEmpty = false := by
    cases hd : l.drop 2 with
    | nil => have := congrArg List.length hd; rw [List.length_drop] at this; simp at this; omega
    | cons _ _ => rfl
  rw [this]; rfl
theorem int_none (l : List UInt8) (h : allF tenD (unsF l) = false) (h1 : ¬ (2 < l.length ∧ l.take 2 = [48, 111])) (h2 : ¬ (2 < l.length ∧ l.take 2 = [48, 120])) : intF l = false := by
  have key : ∀ (b : UInt8) (cs : List UInt8), ¬ (2 < l.length ∧ l.take 2 = [48, b]) → Lib.hasPrefix l [48, b] = true → allF cs (Lib.trimPrefix l [48, b]) = false := by
    intro b cs hn hp
    have hp' := hp
    rw [pre2, Bool.and_eq_true, beq_iff_eq, decide_eq_true_eq] at hp
    have : l.length = 2 := by
      have := hp.1
      have : ¬ 2 < l.length := fun h => hn ⟨h, hp.2⟩
      omega
    rw [trim_pre _ _ _ hp', List.drop_eq_nil_of_le (by omega)]
    rfl
  rw [intF]
  split
  · exact key 111 octD h1 (by assumption)
  · split
    · exact key 120 hexU h2 (by assumption)
    · exact h
/-- s[:2] and s[2:]. -/
theorem cut2 (s : ByteArray) (h : 2 < s.size) : ∃ p q : ByteArray, s.extract 0 2 = p ∧ s.extract 2 s.size = q ∧ p.toList = s.toList.take 2 ∧ q.toList = s.toList.drop 2 ∧ q.size ≤ s.size := by
  refine ⟨_, _, rfl, rfl, ?_, ?_, ?_⟩
  · rw [list_extract]; rfl
  · rw [list_extract, List.take_of_length_le (by rw [List.length_drop, list_len]; omega)]
  · simp [ByteArray.size_extract]

set_option maxHeartbeats 2000000 in
set_option maxRecDepth 100000 in
theorem rint_at {w W : World} (hb : Below w.heap.size w W) (s : ByteArray) (hs : s.size ≤ 1000000) (r : Bool) (hr : intF s.toList = r) : Calls Tryd.prog 35 #[.string s] W (BoolP r w) := by
  have HB := Lib.hid hb
  have HR := Lib.hid hr
  clear hb hr
  go_enter Tryd.func35, Tryd.ntmps35
  go_wp2_with fail
  refine (rsign_at HB.out s).mono ?_
  rintro e w1 ⟨t, ht, rfl, hb1⟩
  have HB1 := Lib.hid hb1
  have hts : t.size ≤ 1000000 := by have := unsF_len s.toList; rw [← ht, list_len, list_len] at this; omega
  have HT := Lib.hid ht
  clear hb1 ht
  cases ha : allF tenD t.toList with
  | true =>
    have : r = true := by rw [← HR.out]; exact int_ten _ (by rw [← HT.out]; exact ha)
    subst this
    rw [allF_dig, Bool.and_eq_true, decide_eq_true_eq, list_len] at ha
    obtain ⟨hte, hdn⟩ := ha
    have hte' : t.toList.isEmpty = false := by simpa using hte
    have HD := Lib.hid hdn
    clear hte hdn HR
    go_wp2_with fail
    refine (rdig_at HB1.out t hts 10 tenD (.inr (.inl ⟨rfl, rfl⟩)) _ HD.out).mono ?_
    rintro e w2 ⟨rfl, hb2⟩
    have HB2 := Lib.hid hb2
    clear hb2
    go_wp2_with fail
    go_ret
    exact ⟨rfl, HB2.out⟩
  | false =>
    have HA : Hid (allF tenD (unsF s.toList) = false) := by show _ = _; rw [← HT.out]; exact ha
    cases hte : t.toList.isEmpty with
    | true =>
      clear ha
      have HBX := HB1
      by_cases h2 : 2 < s.size
      · obtain ⟨p, q, hpe, hqe, hp, hq, hqs⟩ := cut2 s h2
        have hl2 : 2 < s.toList.length := by rw [list_len]; exact h2
        have h2' : (2 : Int) < (s.size : Int) := by omega
        have HQ := Lib.hid hq
        have HP := Lib.hid hp
        clear hq hp
        by_cases ho : s.toList.take 2 = [48, 111]
        · have po : (p.toList == [48, 111]) = true := by rw [HP.out, ho]; rfl
          have HE : Hid (r = decide (digN octD q.toList = s.size - 2)) := by show _ = _; rw [← HR.out, int_oct _ hl2 ho, HQ.out, list_len]
          clear ho
          go_wp2_with fail
          refine (rdig_at HBX.out q (by omega) 8 octD (.inl ⟨rfl, rfl⟩) _ rfl).mono ?_
          rintro e w5 ⟨rfl, hb5⟩
          have HB5 := Lib.hid hb5
          clear hb5
          go_wp2_with fail
          go_ret
          exact ⟨ret_bool (by rw [HE.out]; apply bool_iff; simp; omega), HB5.out⟩
        · have po : (p.toList == [48, 111]) = false := by rw [HP.out]; exact beq_eq_false_iff_ne.2 ho
          by_cases hx : s.toList.take 2 = [48, 120]
          · have px : (p.toList == [48, 120]) = true := by rw [HP.out, hx]; rfl
            have HE : Hid (r = decide (digN hexU q.toList = s.size - 2)) := by show _ = _; rw [← HR.out, int_hex _ hl2 hx, HQ.out, list_len]
            clear ho hx
            go_wp2_with fail
            refine (rdig_at HBX.out q (by omega) 16 hexU (.inr (.inr ⟨rfl, rfl⟩)) _ rfl).mono ?_
            rintro e w5 ⟨rfl, hb5⟩
            have HB5 := Lib.hid hb5
            clear hb5
            go_wp2_with fail
            go_ret
            exact ⟨ret_bool (by rw [HE.out]; apply bool_iff; simp; omega), HB5.out⟩
          · have px : (p.toList == [48, 120]) = false := by rw [HP.out]; exact beq_eq_false_iff_ne.2 hx
            have : r = false := by rw [← HR.out]; exact int_none _ HA.out (fun h => ho h.2) (fun h => hx h.2)
            subst this
            clear ho hx
            go_wp2_with fail
            go_ret
            exact ⟨rfl, HBX.out⟩
      · have h2' : decide ((2 : Int) < (s.size : Int)) = false := decide_eq_false (by omega)
        have : r = false := by rw [← HR.out]; exact int_none _ HA.out (fun h => by have := h.1; rw [list_len] at this; omega) (fun h => by have := h.1; rw [list_len] at this; omega)
        subst this
        go_wp2_with fail
        go_ret
        exact ⟨rfl, HBX.out⟩
    | false =>
      rw [allF_dig, hte, Bool.not_false, Bool.true_and, decide_eq_false_iff_not, list_len] at ha
      obtain ⟨n, hn⟩ : ∃ n, digN tenD t.toList = n := ⟨_, rfl⟩
      rw [hn] at ha
      have HN := Lib.hid hn
      have hne : ((n : Int) == (t.size : Int)) = false := beq_eq_false_iff_ne.2 (by omega)
      clear hn ha
      go_wp2_with fail
      refine (rdig_at HB1.out t hts 10 tenD (.inr (.inl ⟨rfl, rfl⟩)) _ HN.out).mono ?_
      rintro e w2 ⟨rfl, hb2⟩
      have HBX := Lib.hid hb2
      clear hb2
      by_cases h2 : 2 < s.size
      · obtain ⟨p, q, hpe, hqe, hp, hq, hqs⟩ := cut2 s h2
        have hl2 : 2 < s.toList.length := by rw [list_len]; exact h2
        have h2' : (2 : Int) < (s.size : Int) := by omega
        have HQ := Lib.hid hq
        have HP := Lib.hid hp
        clear hq hp
        by_cases ho : s.toList.take 2 = [48, 111]
        · have po : (p.toList == [48, 111]) = true := by rw [HP.out, ho]; rfl
          have HE : Hid (r = decide (digN octD q.toList = s.size - 2)) := by show _ = _; rw [← HR.out, int_oct _ hl2 ho, HQ.out, list_len]
          clear ho
          go_wp2_with fail
          refine (rdig_at HBX.out q (by omega) 8 octD (.inl ⟨rfl, rfl⟩) _ rfl).mono ?_
          rintro e w5 ⟨rfl, hb5⟩
          have HB5 := Lib.hid hb5
          clear hb5
          go_wp2_with fail
          go_ret
          exact ⟨ret_bool (by rw [HE.out]; apply bool_iff; simp; omega), HB5.out⟩
        · have po : (p.toList == [48, 111]) = false := by rw [HP.out]; exact beq_eq_false_iff_ne.2 ho
          by_cases hx : s.toList.take 2 = [48, 120]
          · have px : (p.toList == [48, 120]) = true := by rw [HP.out, hx]; rfl
            have HE : Hid (r = decide (digN hexU q.toList = s.size - 2)) := by show _ = _; rw [← HR.out, int_hex _ hl2 hx, HQ.out, list_len]
            clear ho hx
            go_wp2_with fail
            refine (rdig_at HBX.out q (by omega) 16 hexU (.inr (.inr ⟨rfl, rfl⟩)) _ rfl).mono ?_
            rintro e w5 ⟨rfl, hb5⟩
            have HB5 := Lib.hid hb5
            clear hb5
            go_wp2_with fail
            go_ret
            exact ⟨ret_bool (by rw [HE.out]; apply bool_iff; simp; omega), HB5.out⟩
          · have px : (p.toList == [48, 120]) = false := by rw [HP.out]; exact beq_eq_false_iff_ne.2 hx
            have : r = false := by rw [← HR.out]; exact int_none _ HA.out (fun h => ho h.2) (fun h => hx h.2)
            subst this
            clear ho hx
            go_wp2_with fail
            go_ret
            exact ⟨rfl, HBX.out⟩
      · have h2' : decide ((2 : Int) < (s.size : Int)) = false := decide_eq_false (by omega)
        have : r = false := by rw [← HR.out]; exact int_none _ HA.out (fun h => by have := h.1; rw [list_len] at this; omega) (fun h => by have := h.1; rw [list_len] at this; omega)
        subst this
        go_wp2_with fail
        go_ret
        exact ⟨rfl, HBX.out⟩
end Go.Proofs.YtdjpdcjljpmfnaaDoor
