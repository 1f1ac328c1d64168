/- Chapter 4 (scalars without quotes) as Lean functions on lists of numbers, and facts on them. No program. · The contracts of package plain's functions on bytes: blank, among, joined, documentMark, ends, Starts. · The contracts of ends and Starts. · The contracts of Length, inLine, Valid. · The contracts of the document's answers: PlainStarts, PlainLength, clean, PlainValid. · The contracts of PlainLength and PlainValid, the document's answers. -/
import Derived.Test.YtnecapmnbaemiaaGreatDoorMA
set_option linter.unusedSimpArgs false
set_option linter.unusedVariables false
namespace Go.Proofs.YtnecapmnbaemiaaGreatDoor
open Go.RowKit
set_option linter.unusedVariables false
set_option maxRecDepth 100000
def blk (c : Int) : Bool := c == 9 || c == 32
def flo (c : Int) : Bool := [44, 91, 93, 123, 125].contains c
def oth (c : Int) : Bool := [35, 38, 42, 33, 124, 62, 39, 34, 37, 64, 96].contains c
def ent (c : Int) : Bool := [45, 63, 58].contains c
def joinF (zs : List Int) (fl : Bool) : Bool := decide (0 < zs.length) && (!blk (zs.getD 0 0) && !(fl && flo (zs.getD 0 0)))
def docF (zs : List Int) : Bool := zs.take 3 == [45, 45, 45] || zs.take 3 == [46, 46, 46]
def noF (zs : List Int) : Bool := decide (zs.length = 0) || blk (zs.getD 0 0) || flo (zs.getD 0 0) || oth (zs.getD 0 0) || docF zs
def startF (zs : List Int) (fl : Bool) : Bool := !noF zs && (!ent (zs.getD 0 0) || joinF (zs.drop 1) fl)
def endC (zs : List Int) (fl : Bool) (k : Nat) (c : Int) : Bool :=
  c == 9 || (c == 58 && !joinF (zs.drop (k + 1)) fl) || (c == 35 && (decide (0 < k) && zs.getD (k - 1) 0 == 32)) || (fl && flo c)
def endF (zs : List Int) (fl : Bool) (k : Nat) : Bool := endC zs fl k (zs.getD k 0)
/-- The first place, of m places from k on, where p holds (else k + m). -/
def stopF (p : Nat → Bool) : Nat → Nat → Nat
  | 0, k => k
  | m + 1, k => if p k = true then k else stopF p m (k + 1)
theorem stopF_is (p : Nat → Bool) : ∀ m k, k ≤ stopF p m k ∧ stopF p m k ≤ k + m ∧ (∀ i, k ≤ i → i < stopF p m k → p i = false) ∧ (stopF p m k = k + m ∨ p (stopF p m k) = true) := by
  intro m
  induction m with
  | zero => intro k; exact ⟨Nat.le_refl _, Nat.le_refl _, fun i h1 h2 => by simp [stopF] at h2; omega, .inl rfl⟩
  | succ m ih =>
    intro k
    by_cases hp : p k = true
    · have e : stopF p (m + 1) k = k := by rw [stopF, if_pos hp]
      rw [e]
      exact ⟨Nat.le_refl _, by omega, fun i h1 h2 => by omega, .inr hp⟩
    · have e : stopF p (m + 1) k = stopF p m (k + 1) := by rw [stopF, if_neg hp]
      rw [e]
      obtain ⟨h1, h2, h3, h4⟩ := ih (k + 1)
      refine ⟨by omega, by omega, fun i g1 g2 => ?_, ?_⟩
      · by_cases hi : i = k
        · subst hi; simpa using hp
        · exact h3 i (by omega) g2
      · rcases h4 with h4 | h4
        · left; omega
        · right; exact h4
theorem stopF_at (p : Nat → Bool) (m j : Nat) (h2 : j ≤ m) (h3 : ∀ i, i < j → p i = false) (h4 : j = m ∨ p j = true) : stopF p m 0 = j := by
  obtain ⟨g1, g2, g3, g4⟩ := stopF_is p m 0
  generalize stopF p m 0 = s at *
  rcases Nat.lt_trichotomy s j with h | h | h
  · have := h3 s h
    rcases g4 with g4 | g4
    · omega
    · rw [this] at g4; cases g4
  · exact h
  · have := g3 j (by omega) h
    rcases h4 with h4 | h4
    · omega
    · rw [this] at h4; cases h4
/-- Without the blanks at the end of the first k bytes. -/
def trimF (zs : List Int) : Nat → Nat
  | 0 => 0
  | k + 1 => if zs.getD k 0 = 32 then trimF zs k else k + 1
theorem trimF_is (zs : List Int) : ∀ k, trimF zs k ≤ k ∧ (0 < trimF zs k → zs.getD (trimF zs k - 1) 0 ≠ 32) ∧ ∀ i, trimF zs k ≤ i → i < k → zs.getD i 0 = 32 := by
  intro k
  induction k with
  | zero => exact ⟨Nat.le_refl _, fun h => by simp [trimF] at h, fun i _ h => by omega⟩
  | succ k ih =>
    by_cases h : zs.getD k 0 = 32
    · have e : trimF zs (k + 1) = trimF zs k := by rw [trimF, if_pos h]
      rw [e]
      refine ⟨by omega, ih.2.1, fun i h1 h2 => ?_⟩
      by_cases hi : i = k
      · subst hi; exact h
      · exact ih.2.2 i h1 (by omega)
    · have e : trimF zs (k + 1) = k + 1 := by rw [trimF, if_neg h]
      rw [e]
      exact ⟨Nat.le_refl _, fun _ => h, fun i h1 h2 => by omega⟩
theorem trimF_step (zs : List Int) (k : Nat) (h : zs.getD k 0 = 32) : trimF zs (k + 1) = trimF zs k := by rw [trimF, if_pos h]
theorem trimF_stay (zs : List Int) (k : Nat) (h : zs.getD k 0 ≠ 32) : trimF zs (k + 1) = k + 1 := by rw [trimF, if_neg h]
def lenF (zs : List Int) (fl : Bool) : Nat := if startF zs fl = true then trimF zs (stopF (endF zs fl) zs.length 0) else 0
theorem lenF_no {zs : List Int} {fl : Bool} (h : startF zs fl = false) : lenF zs fl = 0 := by unfold lenF; rw [if_neg (by simp [h])]
theorem lenF_at {zs : List Int} {fl : Bool} (hs : startF zs fl = true) (j : Nat) (h2 : j ≤ zs.length) (h3 : ∀ i, i < j → endF zs fl i = false) (h4 : j = zs.length ∨ endF zs fl j = true) : lenF zs fl = trimF zs j := by
  unfold lenF; rw [if_pos hs, stopF_at _ _ j h2 h3 h4]
def validF (zs : List Int) (fl : Bool) : Bool := decide (0 < zs.length) && (inF false zs.length zs && decide (lenF zs fl = zs.length))
theorem start_len {zs : List Int} {fl : Bool} (h : startF zs fl = true) : 0 < zs.length := by
  unfold startF noF at h
  rcases Nat.eq_zero_or_pos zs.length with h0 | h0
  · rw [decide_eq_true h0] at h; simp at h
  · exact h0
theorem start_first {zs : List Int} {fl : Bool} (h : startF zs fl = true) : noF zs = false ∧ (ent (zs.getD 0 0) = false ∨ joinF (zs.drop 1) fl = true) := by
  unfold startF at h
  simp only [Bool.and_eq_true, Bool.or_eq_true, Bool.not_eq_true'] at h
  exact h
theorem no_parts {zs : List Int} (h : noF zs = false) : 0 < zs.length ∧ blk (zs.getD 0 0) = false ∧ flo (zs.getD 0 0) = false ∧ oth (zs.getD 0 0) = false ∧ docF zs = false := by
  unfold noF at h
  simp only [Bool.or_eq_false_iff, decide_eq_false_iff_not] at h
  exact ⟨by omega, h.1.1.1.2, h.1.1.2, h.1.2, h.2⟩
theorem end_start {zs : List Int} {fl : Bool} (h : startF zs fl = true) : endF zs fl 0 = false := by
  obtain ⟨h1, h2⟩ := start_first h
  obtain ⟨h0, hb, hf, ho, hd⟩ := no_parts h1
  unfold endF endC
  rw [hf]
  unfold blk at hb
  simp only [Bool.or_eq_false_iff] at hb
  rw [hb.1]
  simp only [Nat.lt_irrefl, decide_false, Bool.false_and, Bool.and_false, Bool.or_false, Bool.false_or, Nat.zero_add]
  rcases h2 with h2 | h2
  · have : (zs.getD 0 0 == 58) = false := by
      unfold ent at h2
      simp [-List.getD_eq_getElem?_getD] at h2
      exact beq_eq_false_iff_ne.2 h2.2.2
    rw [this]; rfl
  · rw [h2]; simp
/-- The length: where it begins and ends. -/
theorem len_is (zs : List Int) (fl : Bool) (hs : startF zs fl = true) : ∃ s, 0 < s ∧ s ≤ zs.length ∧ (∀ i, i < s → endF zs fl i = false) ∧ (s = zs.length ∨ endF zs fl s = true) ∧ lenF zs fl = trimF zs s ∧ 0 < lenF zs fl := by
  obtain ⟨h1, h2, h3, h4⟩ := stopF_is (endF zs fl) zs.length 0
  have hl := start_len hs
  have h0 := end_start hs
  have hlen : lenF zs fl = trimF zs (stopF (endF zs fl) zs.length 0) := by unfold lenF; rw [if_pos hs]
  generalize stopF (endF zs fl) zs.length 0 = s at *
  have hs0 : 0 < s := by
    rcases Nat.eq_zero_or_pos s with h | h
    · subst h
      rcases h4 with h4 | h4
      · omega
      · rw [h0] at h4; cases h4
    · exact h
  refine ⟨s, hs0, by omega, fun i hi => h3 i (by omega) hi, by simpa using h4, hlen, ?_⟩
  rw [hlen]
  have hb := (no_parts (start_first hs).1).2.1
  obtain ⟨g1, g2, g3⟩ := trimF_is zs s
  rcases Nat.eq_zero_or_pos (trimF zs s) with h | h
  · have := g3 0 (by omega) hs0
    rw [this] at hb; simp [blk] at hb
  · exact h
theorem len_le (zs : List Int) (fl : Bool) : lenF zs fl ≤ zs.length := by
  cases hs : startF zs fl
  · rw [lenF_no hs]; omega
  · obtain ⟨s, _, h2, _, _, h5, _⟩ := len_is zs fl hs
    have := (trimF_is zs s).1
    omega
theorem len_pos (zs : List Int) (fl : Bool) : decide (0 < lenF zs fl) = startF zs fl := by
  cases hs : startF zs fl
  · rw [lenF_no hs]; rfl
  · obtain ⟨s, _, h2, _, _, h5, h6⟩ := len_is zs fl hs
    exact decide_eq_true h6
set_option maxHeartbeats 400000 in
theorem blank_any (c : Int) (w : World) :
    Calls Tryz.prog 82 #[.int .u8 c] w fun e w' => e = .returned (.bool (blk c)) ∧ w = w' := by
  unfold blk
  go_enter Tryz.func82, Tryz.ntmps82
  go_wp2_with (go_at_call 47; refine (space_any _ _).mono ?_; rintro e w' ⟨rfl, rfl⟩)
  all_goals (go_ret; refine ⟨ret_bool (bool_iff ?_), rfl⟩; simp only [spc] at * <;> simp_all)
set_option maxHeartbeats 400000 in
theorem among_any (s : ByteArray) (c : Int) (h0 : 0 ≤ c) (h1 : c < 256) (w : World) (v : Bool) (hv : (byt s).contains c = v) :
    Calls Tryz.prog 83 #[.string s, .int .u8 c] w fun e w' => e = .returned (.bool v) ∧ w = w' := by
  have C := Lib.hid (indexByteS_any s c h0 h1 w)
  rw [hv] at C
  clear hv
  go_enter Tryz.func83, Tryz.ntmps83
  go_wp2_with (go_at_call 77; refine C.out.mono ?_; rintro e w' ⟨x, hx, rfl, rfl⟩; have HX := Lib.hid hx; clear hx)
  go_ret
  exact ⟨ret_bool HX.out, rfl⟩
set_option maxHeartbeats 400000 in
theorem joined_any (A : Option Addr) (n c : Nat) (zs : List Int) (fl : Bool) (w : World) (hl : zs.length = n) (hnc : n ≤ c) (hm : c ≤ 9223372036854775807) (hb : Byte zs) (hr : RdB w A zs) (v : Bool) (hv : joinF zs fl = v) :
    Calls Tryz.prog 85 #[.slice A n c, .bool fl] w fun e w' => e = .returned (.bool v) ∧ w = w' := by
  subst hv
  by_cases h1 : 0 < n
  · obtain ⟨b, off, rfl, hc⟩ := hr.addr (by omega)
    have c1 : w.cell? ⟨b, off, none⟩ = some (.int .u8 (zs.getD 0 0)) := hc 0 (by omega)
    have hbd := hb.at_ (k := 0) (by omega)
    have d : (0 : Int) < (n : Int) := by omega
    have e : joinF zs fl = (!blk (zs.getD 0 0) && !(fl && flo (zs.getD 0 0))) := by unfold joinF; rw [decide_eq_true (by omega)]; rfl
    rw [e]
    generalize zs.getD 0 0 = x at *
    obtain ⟨hb1, hb2⟩ := hbd
    clear e hc hr hl hb
    go_enter Tryz.func85, Tryz.ntmps85
    go_wp2_with (first | (go_at_call 82; refine (blank_any _ _).mono ?_; rintro e w' ⟨rfl, rfl⟩) | (go_at_call 83; refine (among_any _ _ hb1 hb2 _ (flo x) rfl).mono ?_; rintro e w' ⟨rfl, rfl⟩))
    all_goals (go_ret; refine ⟨ret_bool (bool_iff ?_), rfl⟩; simp_all)
  · have d : decide ((0 : Int) < (n : Int)) = false := decide_eq_false (by omega)
    have e : joinF zs fl = false := by unfold joinF; rw [decide_eq_false (by omega)]; rfl
    rw [e]
    clear e hr hl
    go_enter Tryz.func85, Tryz.ntmps85
    go_wp2
    go_ret
    exact ⟨rfl, rfl⟩
theorem doc_eq (zs : List Int) : docF zs = (decide (3 ≤ zs.length) && (zs.take 3 == [45, 45, 45] || zs.take 3 == [46, 46, 46])) := by
  unfold docF
  rcases Nat.lt_or_ge zs.length 3 with h | h
  · rw [decide_eq_false (by omega)]
    have : ∀ l : List Int, l.length = 3 → (zs.take 3 == l) = false := by
      intro l hl
      apply beq_eq_false_iff_ne.2
      intro e
      have := congrArg List.length e
      rw [List.length_take] at this
      omega
    rw [this _ rfl, this _ rfl]; rfl
  · rw [decide_eq_true h]; rfl
set_option maxHeartbeats 1000000 in
theorem docMark_any (A : Option Addr) (n c : Nat) (zs : List Int) (w : World) (hl : zs.length = n) (hnc : n ≤ c) (hm : c ≤ 9223372036854775807) (hb : Byte zs) (hr : RdB w A zs) (v : Bool) (hv : docF zs = v) :
    Calls Tryz.prog 84 #[.slice A n c] w fun e w' => e = .returned (.bool v) ∧ Below w.heap.size w w' := by
  have kc := fun (w : World) (C : Array Value) (n c : Nat) => Lib.run_convert_bytes_const (P := Tryz.prog) w 35 5 C n c Tryz.underlying35 Tryz.underlying5
  have kc2 : ∀ (o : Obj) (C : Array Value) (n c : Nat), (convert 35 35 (.slice (some ⟨w.heap.size + 1, 0, none⟩) n c)).run Tryz.prog ((w.alloc o).alloc (.cells C 5)) = .ok (.slice (some ⟨w.heap.size + 1, 0, none⟩) n c) ((w.alloc o).alloc (.cells C 5 (C.size, C.size + 1))) := fun o C n c => by
    have := kc (w.alloc o) C n c
    rwa [show (w.alloc o).heap.size = w.heap.size + 1 by simp] at this
  have b1 : Byte [45, 45, 45] := by intro z hz; simp at hz; omega
  have b2 : Byte [46, 46, 46] := by intro z hz; simp at hz; omega
  have hv' : ((decide (3 ≤ n) && zs.take 3 == [45, 45, 45]) || (decide (3 ≤ n) && zs.take 3 == [46, 46, 46])) = v := by
    rw [← hv, doc_eq, hl, ← Bool.and_or_distrib_left]
  have HV := Lib.hid hv'
  obtain ⟨v1, hv1⟩ : ∃ v1, (decide (3 ≤ n) && zs.take 3 == [45, 45, 45]) = v1 := ⟨_, rfl⟩
  obtain ⟨v2, hv2⟩ : ∃ v2, (decide (3 ≤ n) && zs.take 3 == [46, 46, 46]) = v2 := ⟨_, rfl⟩
  have p1 := fun W B hr hs => hasPrefix_any A B n c 3 3 zs [45, 45, 45] W hl rfl (by omega) hnc hm hr hs hb b1 v1 hv1
  have p2 := fun W B hr hs => hasPrefix_any A B n c 3 3 zs [46, 46, 46] W hl rfl (by omega) hnc hm hr hs hb b2 v2 hv2
  rw [hv1, hv2] at HV
  have P1 := Lib.hid p1
  have P2 := Lib.hid p2
  have HR := Lib.hid hr
  clear hv hv' hv1 hv2 p1 p2 hr hb b1 b2 hl
  go_enter Tryz.func84, Tryz.ntmps84
  go_wp2_with fail
  refine (P1.out _ _ (HR.out.below ((Below.refl _ _).alloc (Nat.le_refl _) _)) (RdB.new rfl three_at)).mono ?_
  rintro e w' ⟨rfl, rfl⟩
  have hv := HV.out
  clear HV
  cases v1
  · simp at hv; subst hv
    clear kc
    go_wp2_with fail
    refine (P2.out _ _ (HR.out.below (((Below.refl _ _).alloc (Nat.le_refl _) _).alloc (by simp) _)) (RdB.new (by simp) three_at)).mono ?_
    rintro e w' ⟨rfl, rfl⟩
    go_wp2
    go_ret
    exact ⟨rfl, ((Below.refl _ _).alloc (Nat.le_refl _) _).alloc (by simp) _⟩
  · simp at hv; subst hv
    go_wp2
    go_ret
    exact ⟨rfl, (Below.refl _ _).alloc (Nat.le_refl _) _⟩
set_option maxHeartbeats 1000000 in
theorem ends_any (A : Option Addr) (n c k : Nat) (zs : List Int) (fl : Bool) (w : World) (hl : zs.length = n) (hnc : n ≤ c) (hm : c ≤ 9223372036854775807) (hb : Byte zs) (hr : RdB w A zs) (hk : k < n) (v : Bool) (hv : endF zs fl k = v) :
    Calls Tryz.prog 86 #[.slice A n c, .int .i64 (k : Int), .bool fl] w fun e w' => e = .returned (.bool v) ∧ w = w' := by
  subst hv
  obtain ⟨b, off, rfl, hc⟩ := hr.addr (by omega)
  have c1 := hc k (by omega)
  have hbd := hb.at_ (k := k) (by omega)
  have d : (k : Int) < (n : Int) := by omega
  by_cases h58 : zs.getD k 0 = 58
  · have e : endF zs fl k = !joinF (zs.drop (k + 1)) fl := by
      unfold endF endC; rw [h58]; simp [flo]
    rw [h58] at c1
    rw [e]
    obtain ⟨A', hsl, _, hrd⟩ := slice_lI (some ⟨b, off, none⟩) n c (k + 1) ((k : Int) + 1) (by omega) zs hl hnc (fun h => by cases h) (by omega)
    have J := joined_any A' (n - (k + 1)) (c - (k + 1)) (zs.drop (k + 1)) fl w (by rw [List.length_drop, hl]) (by omega) (by omega) (hb.drop _) (hrd w hr) _ rfl
    have HJ := Lib.hid J
    clear J e hc hr hl hb hbd h58 hrd
    go_enter Tryz.func86, Tryz.ntmps86
    go_wp2_with (go_at_call 85; refine HJ.out.mono ?_; rintro e w' ⟨rfl, rfl⟩)
    go_ret
    exact ⟨rfl, rfl⟩
  · by_cases h35 : zs.getD k 0 = 35
    · have e : endF zs fl k = (decide (0 < k) && zs.getD (k - 1) 0 == 32) := by
        unfold endF endC; rw [h35]; simp [flo]
      rw [h35] at c1
      rw [e]
      by_cases h0 : 0 < k
      · have c0 := hc (k - 1) (by omega)
        obtain ⟨j, rfl⟩ : ∃ j, k = j + 1 := ⟨k - 1, by omega⟩
        have ee : j + 1 - 1 = j := by omega
        rw [ee] at c0 ⊢
        rw [show ((j + 1 : Nat) : Int) = (j : Int) + 1 by omega] at d ⊢
        have d0 : (0 : Int) < (j : Int) + 1 := by omega
        rw [decide_eq_true h0]
        generalize zs.getD j 0 = y at *
        clear e hc hr hl hb hbd h58 h35 ee
        go_enter Tryz.func86, Tryz.ntmps86
        go_wp2_with (go_at_call 47; refine (space_any _ _).mono ?_; rintro e w' ⟨rfl, rfl⟩)
        go_ret
        exact ⟨rfl, rfl⟩
      · obtain rfl : k = 0 := by omega
        rw [Nat.add_zero] at c1
        rw [show ((0 : Nat) : Int) = 0 from rfl] at d ⊢
        clear e hc hr hl hb hbd h58 h35
        go_enter Tryz.func86, Tryz.ntmps86
        go_wp2
        go_ret
        exact ⟨rfl, rfl⟩
    · have e : endF zs fl k = (zs.getD k 0 == 9 || (fl && flo (zs.getD k 0))) := by
        unfold endF endC
        rw [beq_eq_false_iff_ne.2 h58, beq_eq_false_iff_ne.2 h35]
        simp
      rw [e]
      generalize zs.getD k 0 = x at *
      have e58 : (x == 58) = false := beq_eq_false_iff_ne.2 h58
      have e35 : (x == 35) = false := beq_eq_false_iff_ne.2 h35
      obtain ⟨hb1, hb2⟩ := hbd
      clear e hc hr hl hb h58 h35
      go_enter Tryz.func86, Tryz.ntmps86
      go_wp2_with (go_at_call 83; refine (among_any _ _ hb1 hb2 _ (flo x) rfl).mono ?_; rintro e w' ⟨rfl, rfl⟩)
      all_goals (go_ret; refine ⟨ret_bool (bool_iff ?_), rfl⟩; simp_all)
theorem start_no {zs : List Int} {fl : Bool} (h : noF zs = true) : startF zs fl = false := by unfold startF; rw [h]; rfl
theorem start_yes {zs : List Int} {fl : Bool} (h : noF zs = false) : startF zs fl = (!ent (zs.getD 0 0) || joinF (zs.drop 1) fl) := by unfold startF; rw [h]; rfl
set_option maxHeartbeats 2000000 in
theorem starts_any (A : Option Addr) (n c : Nat) (zs : List Int) (fl : Bool) (w : World) (hl : zs.length = n) (hnc : n ≤ c) (hm : c ≤ 9223372036854775807) (hb : Byte zs) (hr : RdB w A zs) (v : Bool) (hv : startF zs fl = v) :
    Calls Tryz.prog 68 #[.slice A n c, .bool fl] w fun e w' => e = .returned (.bool v) ∧ Below w.heap.size w w' := by
  subst hv
  by_cases h0 : 0 < n
  · obtain ⟨b, off, rfl, hc⟩ := hr.addr (by omega)
    have c1 : w.cell? ⟨b, off, none⟩ = some (.int .u8 (zs.getD 0 0)) := hc 0 (by omega)
    have hbd := hb.at_ (k := 0) (by omega)
    have d : (0 : Int) < (n : Int) := by omega
    have d0 : ((n : Int) == 0) = false := beq_eq_false_iff_ne.2 (by omega)
    have D := docMark_any (some ⟨b, off, none⟩) n c zs w hl hnc hm hb hr _ rfl
    obtain ⟨A', hsl, _, hrd⟩ := slice_lI (some ⟨b, off, none⟩) n c 1 1 rfl zs hl hnc (fun h => by cases h) (by omega)
    have J := fun W hW => joined_any A' (n - 1) (c - 1) (zs.drop 1) fl W (by rw [List.length_drop, hl]) (by omega) (by omega) (hb.drop _) hW _ rfl
    have en : noF zs = (blk (zs.getD 0 0) || flo (zs.getD 0 0) || oth (zs.getD 0 0) || docF zs) := by
      unfold noF; rw [decide_eq_false (by omega)]; simp only [Bool.false_or]
    have es1 := fun h => start_no (zs := zs) (fl := fl) h
    have es2 := fun h => start_yes (zs := zs) (fl := fl) h
    rw [en] at es1 es2
    have HD := Lib.hid D
    have HJ := Lib.hid J
    have E1 := Lib.hid es1
    have E2 := Lib.hid es2
    have HRD := Lib.hid (fun W hb => hrd W (RdB.below (w := w) hr (w' := W) hb))
    have HC := Lib.hid c1
    clear D J es1 es2 en hc hr hl hb hrd
    generalize hx : zs.getD 0 0 = x at *
    generalize docF zs = dc at *
    generalize joinF (zs.drop 1) fl = jn at *
    obtain ⟨hb1, hb2⟩ := hbd
    clear hx
    go_enter Tryz.func68, Tryz.ntmps68
    go_wp2_with (first | (go_at_call 82; refine (blank_any _ _).mono ?_; rintro e w' ⟨rfl, rfl⟩) | (go_at_call 83; first | (refine (among_any ⟨#[44, 91, 93, 123, 125]⟩ _ hb1 hb2 _ (flo x) rfl).mono ?_; rintro e w' ⟨rfl, rfl⟩) | (refine (among_any ⟨#[35, 38, 42, 33, 124, 62, 39, 34, 37, 64, 96]⟩ _ hb1 hb2 _ (oth x) rfl).mono ?_; rintro e w' ⟨rfl, rfl⟩) | (refine (among_any ⟨#[45, 63, 58]⟩ _ hb1 hb2 _ (ent x) rfl).mono ?_; rintro e w' ⟨rfl, rfl⟩)) | (go_at_call 84; refine HD.out.mono ?_; rintro e w' ⟨rfl, hb⟩; have HB := Lib.hid hb; have c2 := cell_keep hb c1; clear hb) | (go_at_call 85; refine (HJ.out _ (HRD.out _ HB.out)).mono ?_; rintro e w' ⟨rfl, rfl⟩))
    all_goals go_ret
    all_goals first
      | exact ⟨ret_bool (E1.out (by simp [*])).symm, Below.refl _ _⟩
      | exact ⟨ret_bool (E1.out (by simp [*])).symm, HB.out⟩
      | exact ⟨ret_bool (by rw [E2.out (by simp [*])]; simp [*]), HB.out⟩
  · have d0 : ((n : Int) == 0) = true := beq_iff_eq.2 (by omega)
    have e : startF zs fl = false := by unfold startF noF; rw [decide_eq_true (show zs.length = 0 by omega)]; simp
    rw [e]
    clear e hr hl hb
    go_enter Tryz.func68, Tryz.ntmps68
    go_wp2
    go_ret
    exact ⟨rfl, Below.refl _ _⟩
set_option maxHeartbeats 2000000 in
theorem length_any (A : Option Addr) (n c : Nat) (zs : List Int) (fl : Bool) (w : World) (hl : zs.length = n) (hnc : n ≤ c) (hm : c ≤ 9223372036854775807) (hb : Byte zs) (hr : RdB w A zs) (v : Nat) (hv : lenF zs fl = v) :
    Calls Tryz.prog 69 #[.slice A n c, .bool fl] w fun e w' => e = .returned (.int .i64 (v : Int)) ∧ Below w.heap.size w w' := by
  have S := starts_any A n c zs fl w hl hnc hm hb hr _ rfl
  have HS := Lib.hid S
  have HV := Lib.hid hv
  clear S hv
  cases hs : startF zs fl
  · have hv : v = 0 := by rw [← HV.out, lenF_no hs]
    subst hv
    rw [hs] at HS
    clear hs hr hl hb
    go_enter Tryz.func69, Tryz.ntmps69
    go_wp2_with (go_at_call 68; refine HS.out.mono ?_; rintro e w' ⟨rfl, hb⟩; have HB := Lib.hid hb; clear hb)
    go_ret
    exact ⟨rfl, HB.out⟩
  · rw [hs] at HS
    have h0 := start_len hs
    rw [hl] at h0
    obtain ⟨b, off, rfl, hc⟩ := hr.addr (by omega)
    have HR := Lib.hid hr
    have HL := Lib.hid hl
    have HY := Lib.hid hb
    have HST := Lib.hid hs
    clear hs hr hl hb hc
    go_enter Tryz.func69, Tryz.ntmps69
    go_wp2_with (go_at_call 68; refine HS.out.mono ?_; rintro e w' ⟨rfl, hb⟩; have HB := Lib.hid hb; clear hb)
    have HRW := Lib.hid (HR.out.below HB.out)
    go_loop [5] (fun i => ∃ k : Nat, k ≤ n ∧ i = .int .i64 (k : Int) ∧ Hid (∀ i, i < k → endF zs fl i = false)) (fun i => n - (intOf i).toNat)
    case atStart => exact ⟨0, by omega, rfl, fun i hi => by omega⟩
    case round =>
      obtain ⟨k, hk, rfl, HK⟩ := hrel
      have fin : k = n ∨ endF zs fl k = true → v = trimF zs k := by
        intro h
        rw [← HV.out]
        exact lenF_at HST.out k (by rw [HL.out]; exact hk) HK.out (by rw [HL.out]; exact h)
      have FIN := Lib.hid fin
      clear fin
      by_cases hlt : k < n ∧ endF zs fl k = false
      · obtain ⟨hlt, hend⟩ := hlt
        have E := Lib.hid (ends_any _ n c k zs fl w' HL.out hnc hm HY.out HRW.out hlt _ hend)
        have hn : ∀ i, i < k + 1 → endF zs fl i = false := by
          intro i hi
          rcases Nat.lt_succ_iff_lt_or_eq.1 hi with h | h
          · exact HK.out i h
          · subst h; exact hend
        have HN := Lib.hid hn
        have d : (k : Int) < (n : Int) := by omega
        clear hn hend FIN
        go_wp2_with (go_at_call 86; refine E.out.mono ?_; rintro e w' ⟨rfl, rfl⟩)
        go_round
        case rel => exact ⟨k + 1, by omega, by go_num, HN⟩
        case measure => simp [intOf]; omega
      · have hv : v = trimF zs k := FIN.out (by
          by_cases h : k < n
          · right; cases he : endF zs fl k
            · exact absurd ⟨h, he⟩ hlt
            · rfl
          · left; omega)
        have HV2 := Lib.hid hv
        clear hv FIN HK
        by_cases h : k < n
        · have hend : endF zs fl k = true := by
            cases he : endF zs fl k
            · exact absurd ⟨h, he⟩ hlt
            · rfl
          have E := Lib.hid (ends_any _ n c k zs fl w' HL.out hnc hm HY.out HRW.out h _ hend)
          have d : (k : Int) < (n : Int) := by omega
          clear hend hlt
          go_wp2_with (go_at_call 86; refine E.out.mono ?_; rintro e w' ⟨rfl, rfl⟩)
          go_loop [5] (fun i => ∃ q : Nat, q ≤ n ∧ i = .int .i64 (q : Int) ∧ Hid (v = trimF zs q)) (fun i => (intOf i).toNat)
          case atStart => exact ⟨k, hk, rfl, HV2⟩
          case round =>
            clear d
            obtain ⟨q, hq, rfl, HQ⟩ := hrel
            by_cases h0 : 0 < q
            · obtain ⟨j, rfl⟩ : ∃ j, q = j + 1 := ⟨q - 1, by omega⟩
              obtain ⟨b', off', e', hc⟩ := HRW.out.addr (by rw [HL.out]; omega)
              injection e' with e'
              injection e' with e1 e2
              subst e1 e2
              have c0 := hc j (by rw [HL.out]; omega)
              clear hc
              rw [show ((j + 1 : Nat) : Int) = (j : Int) + 1 by omega]
              have d0 : (0 : Int) < (j : Int) + 1 := by omega
              have dj : (j : Int) < (n : Int) := by omega
              by_cases h32 : zs.getD j 0 = 32
              · have hv : v = trimF zs j := by rw [HQ.out, trimF_step zs j h32]
                have HV3 := Lib.hid hv
                rw [h32] at c0
                clear hv h32
                go_wp2_with (go_at_call 47; refine (space_any _ _).mono ?_; rintro e w' ⟨rfl, rfl⟩)
                go_round
                case rel => exact ⟨j, by omega, by go_num, HV3⟩
                case measure => simp [intOf]
              · have hv : v = j + 1 := by rw [HQ.out, trimF_stay zs j h32]
                have hsp : spc (zs.getD j 0) = false := beq_eq_false_iff_ne.2 h32
                have HV3 := Lib.hid hv
                clear hv h32
                generalize zs.getD j 0 = y at *
                go_wp2_with (go_at_call 47; refine (space_any _ _).mono ?_; rintro e w' ⟨rfl, rfl⟩)
                go_ret
                exact ⟨ret_int (by rw [HV3.out]; omega), HB.out⟩
            · obtain rfl : q = 0 := by omega
              have hv : v = 0 := HQ.out
              subst hv
              go_wp2_with fail
              go_ret
              exact ⟨rfl, HB.out⟩
        · have d : decide ((k : Int) < (n : Int)) = false := decide_eq_false (by omega)
          clear hlt
          go_wp2_with fail
          go_loop [5] (fun i => ∃ q : Nat, q ≤ n ∧ i = .int .i64 (q : Int) ∧ Hid (v = trimF zs q)) (fun i => (intOf i).toNat)
          case atStart => exact ⟨k, hk, rfl, HV2⟩
          case round =>
            clear d
            obtain ⟨q, hq, rfl, HQ⟩ := hrel
            by_cases h0 : 0 < q
            · obtain ⟨j, rfl⟩ : ∃ j, q = j + 1 := ⟨q - 1, by omega⟩
              obtain ⟨b', off', e', hc⟩ := HRW.out.addr (by rw [HL.out]; omega)
              injection e' with e'
              injection e' with e1 e2
              subst e1 e2
              have c0 := hc j (by rw [HL.out]; omega)
              clear hc
              rw [show ((j + 1 : Nat) : Int) = (j : Int) + 1 by omega]
              have d0 : (0 : Int) < (j : Int) + 1 := by omega
              have dj : (j : Int) < (n : Int) := by omega
              by_cases h32 : zs.getD j 0 = 32
              · have hv : v = trimF zs j := by rw [HQ.out, trimF_step zs j h32]
                have HV3 := Lib.hid hv
                rw [h32] at c0
                clear hv h32
                go_wp2_with (go_at_call 47; refine (space_any _ _).mono ?_; rintro e w' ⟨rfl, rfl⟩)
                go_round
                case rel => exact ⟨j, by omega, by go_num, HV3⟩
                case measure => simp [intOf]
              · have hv : v = j + 1 := by rw [HQ.out, trimF_stay zs j h32]
                have hsp : spc (zs.getD j 0) = false := beq_eq_false_iff_ne.2 h32
                have HV3 := Lib.hid hv
                clear hv h32
                generalize zs.getD j 0 = y at *
                go_wp2_with (go_at_call 47; refine (space_any _ _).mono ?_; rintro e w' ⟨rfl, rfl⟩)
                go_ret
                exact ⟨ret_int (by rw [HV3.out]; omega), HB.out⟩
            · obtain rfl : q = 0 := by omega
              have hv : v = 0 := HQ.out
              subst hv
              go_wp2_with fail
              go_ret
              exact ⟨rfl, HB.out⟩
end Go.Proofs.YtnecapmnbaemiaaGreatDoor
