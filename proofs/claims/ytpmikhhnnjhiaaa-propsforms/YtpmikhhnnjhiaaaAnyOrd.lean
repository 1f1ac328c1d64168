/- A region that draws its order: operations of which each one keeps what is held, in whatever order they come up (the entries of a map's literal). -/
import Derived.Test.YtpmikhhnnjhiaaaGate
namespace Go.Proofs.Ytpmikhhnnjhiaaa
open Go.RowKit
set_option linter.unusedVariables false

section
variable {P : Program} {ops : Array Oper} {Q : Exit → Act → World → Prop} {md : Region.Mode} {t : Nat}

/-- Those of I wait for nothing but what has come up in Lf; whatever has not come up in Lf waits for all of I, or for another one that has not come up. -/
def anyOk (md : Region.Mode) (ops : Array Oper) (I : List Nat) (Lf : Array Bool) : Bool :=
  decide (Lf.size = ops.size) &&
  (I.all (fun i => decide (i < ops.size) && (match ops[i]? with | some o => o.after.toList.all (fun e => !Region.binds md e || (!I.contains e.on && Lf.getD e.on false)) | none => false)) &&
  (List.range ops.size).all (fun j => Lf.getD j true || (match ops[j]? with | some o => I.all (fun i => o.after.toList.any (fun e => Region.binds md e && e.on == i)) || o.after.toList.any (fun e => Region.binds md e && !Lf.getD e.on true) | none => false)))
theorem getD_lt {L : Array Bool} {i : Nat} (h : L.getD i true = false) : i < L.size ∧ L.getD i false = false := by
  by_cases hi : i < L.size
  · refine ⟨hi, ?_⟩
    simp [Array.getD, hi] at h ⊢
    exact h
  · simp [Array.getD, hi] at h
theorem getD_up {L : Array Bool} {i : Nat} (h : L.getD i false = true) : L.getD i true = true ∧ i < L.size := by
  by_cases hi : i < L.size
  · refine ⟨?_, hi⟩
    simp [Array.getD, hi] at h ⊢
    exact h
  · simp [Array.getD, hi] at h
theorem getD_of {L : Array Bool} {i : Nat} (h : L.getD i true = true) (hi : i < L.size) : L.getD i false = true := by
  simp [Array.getD, hi] at h ⊢
  exact h
theorem upOne_size (L : Array Bool) (i : Nat) : (upOne L i).size = L.size := by simp [upOne]
theorem upOne_getD (L : Array Bool) (i j : Nat) (hi : i < L.size) : (upOne L i).getD j true = if j = i then true else L.getD j true := by
  by_cases h : j = i
  · subst h
    rw [if_pos rfl]
    simp [upOne, Array.getD, hi]
  · rw [if_neg h]
    unfold upOne
    rw [getD_set_ne true (fun e => h e.symm)]
theorem array_same {L M : Array Bool} (hs : L.size = M.size) (h : ∀ i, L.getD i true = M.getD i true) : L = M := by
  apply Array.ext hs
  intro i h1 h2
  have := h i
  simp [Array.getD, h1, h2] at this
  exact this
theorem gate_any {a : Act} {I : List Nat} {Lf : Array Bool} {r : Nat} (hok : anyOk md ops I Lf = true) (Inv : Nat → World → Prop)
    (step : ∀ i ∈ I, ∀ k w, Inv (k + 1) w → wpOp P ops Q i (fun a' w' => a' = a ∧ Inv k w') a w)
    (rest : ∀ w, Inv 0 w → wpGate P md ops Q (fun _ => True) t r Lf a w) :
    ∀ (k : Nat) (J : List Nat) (L : Array Bool) (w : World), J.Nodup → (∀ i ∈ J, i ∈ I) → J.length = k → L.size = ops.size → (∀ i, L.getD i true = (Lf.getD i true && !decide (i ∈ J))) → Inv k w → wpGate P md ops Q (fun _ => True) t (k + r) L a w := by
  unfold anyOk at hok
  simp only [Bool.and_eq_true, decide_eq_true_eq, List.all_eq_true] at hok
  obtain ⟨hsz, hI, hR⟩ := hok
  intro k
  induction k with
  | zero =>
    intro J L w hnd hJ hlen hL hrel hinv
    have : J = [] := List.eq_nil_of_length_eq_zero hlen
    subst this
    have e : L = Lf := array_same (by rw [hL, hsz]) (fun i => by rw [hrel i]; simp)
    rw [e, Nat.zero_add]
    exact rest w hinv
  | succ k ih =>
    intro J L w hnd hJ hlen hL hrel hinv
    obtain ⟨j0, J', rfl⟩ : ∃ x l, J = x :: l := by
      cases J with
      | nil => simp at hlen
      | cons x l => exact ⟨x, l, rfl⟩
    have hj0 : L.getD j0 true = false := by rw [hrel j0]; simp
    rw [show k + 1 + r = k + r + 1 by omega]
    refine ⟨fun h => ?_, fun i hi => ?_⟩
    · have hm : j0 ∈ Region.ready md ops L := by
        rw [mem_ready]
        refine ⟨hj0, ?_⟩
        have h0 := hI j0 (hJ j0 (by simp))
        cases ho : ops[j0]? with
        | none => rw [ho] at h0; simp at h0
        | some o =>
          rw [ho] at h0
          refine ⟨o, rfl, fun e he hb => ?_⟩
          have h1 := List.all_eq_true.1 h0.2 e (by simpa using he)
          rw [hb] at h1
          simp only [Bool.not_true, Bool.false_or, Bool.and_eq_true, Bool.not_eq_true'] at h1
          have h2 := getD_up h1.2
          refine getD_of ?_ (by rw [hL, ← hsz]; exact h2.2)
          rw [hrel, h2.1]
          have : e.on ∉ j0 :: J' := fun hc => by
            have := hJ _ hc
            have h3 := h1.1
            rw [List.contains_eq_mem] at h3
            simp [this] at h3
          simp [this]
      rw [h] at hm
      cases hm
    · by_cases hiJ : i ∈ j0 :: J'
      · refine wpOp_mono (fun a' w' hk => ?_) (step i (hJ i hiJ) k w hinv)
        obtain ⟨rfl, hk⟩ := hk
        refine ⟨fun _ => trivial, ?_⟩
        have hiL : i < L.size := (getD_lt (mem_ready.1 hi).1).1
        refine ih ((j0 :: J').erase i) (upOne L i) w' (hnd.erase i) (fun x hx => hJ x (List.mem_of_mem_erase hx)) (by rw [List.length_erase_of_mem hiJ, hlen]; omega) (by rw [upOne_size, hL]) (fun x => ?_) hk
        rw [upOne_getD L i x hiL]
        by_cases hx : x = i
        · subst hx
          rw [if_pos rfl]
          have h1 : ¬ x ∈ (j0 :: J').erase x := by rw [hnd.mem_erase_iff]; simp
          have h2 : Lf.getD x true = true := by
            cases h3 : Lf.getD x true with
            | true => rfl
            | false =>
              exfalso
              have h4 := hR x (List.mem_range.2 (by rw [← hL]; exact hiL))
              rw [h3, Bool.false_or] at h4
              obtain ⟨_, o, ho, hall⟩ := mem_ready.1 hi
              rw [ho] at h4
              simp only [Bool.or_eq_true] at h4
              rcases h4 with h4 | h4
              · have h5 := List.all_eq_true.1 h4 x (hJ x hiJ)
                obtain ⟨e, he, hb⟩ := List.any_eq_true.1 h5
                simp only [Bool.and_eq_true, beq_iff_eq] at hb
                have := hall e (by simpa using he) hb.1
                rw [hb.2] at this
                have h6 := (getD_lt (mem_ready.1 hi).1).2
                rw [this] at h6; cases h6
              · obtain ⟨e, he, hb⟩ := List.any_eq_true.1 h4
                simp only [Bool.and_eq_true, Bool.not_eq_true'] at hb
                have := getD_up (hall e (by simpa using he) hb.1)
                rw [hrel, hb.2] at this
                simp at this
          simp [h1, h2]
        · rw [if_neg hx, hrel x]
          have : (x ∈ (j0 :: J').erase i) ↔ x ∈ j0 :: J' := by rw [hnd.mem_erase_iff]; simp [hx]
          simp only [this]
      · exfalso
        have hd := (mem_ready.1 hi).1
        rw [hrel i] at hd
        have h3 : Lf.getD i true = false := by
          cases h : Lf.getD i true with
          | true => rw [h, Bool.true_and, decide_eq_false hiJ] at hd; cases hd
          | false => rfl
        have hiL : i < L.size := (getD_lt (mem_ready.1 hi).1).1
        have h4 := hR i (List.mem_range.2 (by rw [← hL]; exact hiL))
        rw [h3, Bool.false_or] at h4
        obtain ⟨_, o, ho, hall⟩ := mem_ready.1 hi
        rw [ho] at h4
        simp only [Bool.or_eq_true] at h4
        rcases h4 with h4 | h4
        · have h5 := List.all_eq_true.1 h4 j0 (hJ j0 (by simp))
          obtain ⟨e, he, hb⟩ := List.any_eq_true.1 h5
          simp only [Bool.and_eq_true, beq_iff_eq] at hb
          have := hall e (by simpa using he) hb.1
          rw [hb.2] at this
          have h6 := (getD_lt hj0).2
          rw [this] at h6; cases h6
        · obtain ⟨e, he, hb⟩ := List.any_eq_true.1 h4
          simp only [Bool.and_eq_true, Bool.not_eq_true'] at hb
          have := getD_up (hall e (by simpa using he) hb.1)
          rw [hrel, hb.2] at this
          simp at this
end
end Go.Proofs.Ytpmikhhnnjhiaaa
