/- Chapter 14: what the laws on forms and circles want: what Check and Compose say of these texts, reckoned. No program. · Chapter 14: what the law on forms wants: its table in any order; sums of texts in a region that draws. -/
import Derived.Test.YtnecapmnbaemiaaGreatDoorMK
import Derived.Test.YtnecapmnbaemiaaGreatDoorMG
import Derived.Test.YtnecapmnbaemiaaGreatDoorML
import Derived.Test.YtnecapmnbaemiaaGreatDoorMA
set_option linter.unusedSimpArgs false
set_option linter.unusedVariables false
namespace Go.Proofs.YtnecapmnbaemiaaGreatDoor
open Go.RowKit
set_option linter.unusedVariables false
set_option maxRecDepth 100000
def cfGood (x : Int) : List (List Int × Int) := [([91, 38, 120, 32, x, 32, 44, 32, 42, 120, 32, 93], 0), ([91, 42, 120, 32, 44, 32, 38, 120, 32, x, 93], 4), ([42, 120], 4), ([38, 120, 32, 91, 42, 120, 32, 93], 0), ([91, 38, 120, 32, 49, 32, 44, 32, 38, 120, 32, 50, 93], 5), ([123, x, 58, 32, 49, 44, 32, x, 58, 32, 50, 125], 5), ([123, x, 58, 32, 49, 44, 32, 34, x, 34, 58, 32, 50, 125], 5), ([123, 49, 58, 32, 49, 44, 32, 39, 49, 39, 58, 32, 50, 125], 0), ([123, 49, 58, 32, 49, 44, 32, 48, 120, 49, 58, 32, 50, 125], 0), ([123, x, 58, 32, 123, x, 58, 32, 49, 125, 125], 0), ([91, 123, x, 58, 32, 49, 125, 44, 32, 123, x, 58, 32, 49, 125, 93], 0), ([123, 116, 114, 117, 101, 58, 32, 49, 44, 32, 116, 114, 117, 101, 58, 32, 50, 125], 5)]
def smB (m : List Gn) : Bool := m.all fun x => decide (x.kids.length ≤ 100) && (x.kids.all (fun k => decide (0 ≤ k) && decide (k ≤ 1000)) && (decide (x.tag.size ≤ 1000) && (decide (x.anchor.size ≤ 1000) && decide (x.value.size ≤ 1000))))
theorem smB_small {m : List Gn} (h : smB m = true) : Small m := by
  intro x hx
  have h1 := List.all_eq_true.1 h x hx
  simp only [Bool.and_eq_true, decide_eq_true_eq, List.all_eq_true] at h1
  refine ⟨by omega, fun k hk => ?_⟩
  have := h1.2.1 k hk
  omega
theorem smB_tx {m : List Gn} (h : smB m = true) : TxG m := by
  intro x hx
  have h1 := List.all_eq_true.1 h x hx
  simp only [Bool.and_eq_true, decide_eq_true_eq, List.all_eq_true] at h1
  omega
/-- What Check and Compose say of a list, as the law on forms asks. -/
def cfB (l : List Nd) (c : Int) : Bool := smB (l.map gn) && (decide (0 < l.length) && (decide (l.length ≤ 100) && (((ckF (l.map gn)).1 == c) && ((!(((c == 0) != ((ckF (l.map gn)).2 == 0)) && (c != 4))) && (decide (c ≠ 0) || decide (0 < (cmpL (nbrF (l.map gn)) (l.map gn)).length))))))
def cfOk (p : List Int × Int) : Bool := match inParse p.1 true with
  | .error _ => false
  | .ok l => cfB l p.2
theorem cf_good : ∀ k : Fin 8, (cfGood (97 + (k.val : Int))).all cfOk = true := by decide +kernel
/-- A node within so many others, and an alias of one of them. -/
def ccT (n : Nat) : List Int := (List.range n).flatMap fun (i : Nat) => ([38, 97 + (i : Int), 32, 91] : List Int)
def ccX (n i : Nat) : List Int := ccT n ++ ([42, 97 + (i : Int), 32] ++ List.replicate n 93)
def ccB (l : List Nd) (n i : Nat) : Bool := smB (l.map gn) && (decide (0 < l.length) && (decide (l.length ≤ 100) && (((ckF (l.map gn)).1 == 0) && (match (cmpL (nbrF (l.map gn)) (l.map gn))[n - 1]? with
  | some t => decide ((cmpL (nbrF (l.map gn)) (l.map gn)).length = n) && (t.kids == [(i : Int)])
  | none => false))))
def ccOk (n i : Nat) : Bool := match inParse (ccX n i) true with
  | .error _ => false
  | .ok l => ccB l n i
theorem ccB_of {l : List Nd} {n i : Nat} (h : ccB l n i = true) : TxG (l.map gn) ∧ Small (l.map gn) ∧ l.length ≤ 100 ∧ (ckF (l.map gn)).1 = 0 ∧ ∃ t, (cmpL (nbrF (l.map gn)) (l.map gn))[n - 1]? = some t ∧ (cmpL (nbrF (l.map gn)) (l.map gn)).length = n ∧ t.kids = [(i : Int)] := by
  unfold ccB at h
  simp only [Bool.and_eq_true, decide_eq_true_eq] at h
  obtain ⟨h1, _, h3, h4, h5⟩ := h
  refine ⟨smB_tx h1, smB_small h1, h3, eq_of_beq h4, ?_⟩
  split at h5
  · rename_i t ht
    simp only [Bool.and_eq_true, decide_eq_true_eq] at h5
    exact ⟨t, ht, h5.1, eq_of_beq h5.2⟩
  · cases h5
theorem cc_good : ∀ k j : Fin 6, j.val ≤ k.val → ccOk (k.val + 1) j.val = true := by decide +kernel
open Go.RowKit Go.Maps
theorem cf_len (x : Int) (p : List Int × Int) (h : p ∈ cfGood x) : p.1.length ≤ 1000 := by
  have : (cfGood x).all (fun p => decide (p.1.length ≤ 1000)) = true := rfl
  exact of_decide_eq_true (List.all_eq_true.1 this _ h)
theorem cfOk_eq {p : List Int × Int} (h : cfOk p = true) : ∃ l, inParse p.1 true = .ok l ∧ cfB l p.2 = true := by
  unfold cfOk at h
  split at h
  · cases h
  · rename_i l hl
    exact ⟨l, hl, h⟩
theorem cf_letter : ∀ k : Fin 8, byt (((⟨#[97, 98, 99, 100, 101, 102, 103, 104]⟩ : ByteArray).extract k.val 8).extract 0 1) = [97 + (k.val : Int)] := by decide +kernel
theorem run_add (x y z : ByteArray) (h : x ++ y = z) (hs : x.size + y.size ≤ 1000) (V : World) : (binOp .add 9 (.string x) (.string y)).run Tryz.prog V = .ok (.string z) V := by
  subst h
  simp [go_sem]
  omega
theorem add_exec (o : Oper) (x y : Operand) (t : TypeId) (ho : o.op = .binOp .add 9 x y t) (a : Act) (sx sy z : ByteArray) (hx : a.eval x = .string sx) (hy : a.eval y = .string sy) (hz : sx ++ sy = z) (hs : sx.size + sy.size ≤ 1000) (V : World) :
    (execOp a.eval o).run Tryz.prog V = .ok (.value (.string z)) V := by
  have e : (eqGuard .add 9 x y (.string sx) (.string sy)).run Tryz.prog V = .ok () V := rfl
  simp [execOp, ho, hx, hy, e, run_add sx sy z hz hs V, Result.andThen]
theorem move_exec (o : Oper) (x : Operand) (ho : o.op = .move x) (a : Act) (v : Value) (hx : a.eval x = v) (V : World) : (execOp a.eval o).run Tryz.prog V = .ok (.value v) V := by
  simp [execOp, ho, hx]
theorem insert_exec (o : Oper) (m k x : Operand) (t : TypeId) (ho : o.op = .insert t m k x) (a : Act) (vm vk vx : Value) (hm : a.eval m = vm) (hk : a.eval k = vk) (hx : a.eval x = vx) (V V' : World) (h : (Instr.mapUpdate t vm vk vx).run Tryz.prog V = .ok () V') :
    (execOp a.eval o).run Tryz.prog V = .ok .skip V' := by
  simp [execOp, ho, hm, hk, hx, h, Result.andThen]
theorem range_exec (o : Oper) (m : Operand) (t : TypeId) (ho : o.op = .range t m) (a : Act) (vm v : Value) (hm : a.eval m = vm) (V V' : World) (h : (Instr.range t vm).run Tryz.prog V = .ok v V') :
    (execOp a.eval o).run Tryz.prog V = .ok (.value v) V' := by
  simp [execOp, ho, hm, h, Result.andThen]
theorem makeMap_exec (o : Oper) (t : TypeId) (ho : o.op = .makeMap t none) (a : Act) (V : World) : (execOp a.eval o).run Tryz.prog V = .ok (.value (.map (some V.heap.size))) (V.alloc (.map #[] 0)) := by
  simp [execOp, ho, run_makeMap, Result.andThen]
theorem gate_gen {P : Program} {ops : Array Oper} {Q : Exit → Act → World → Prop} {md : Region.Mode} {S : World → Prop} {t n : Nat} {L : Array Bool} {a : Act} {w : World} (h : ∀ a0 : Act, a0 = a → wpGate P md ops Q S t n L a0 w) : wpGate P md ops Q S t n L a w := h a rfl
/-- The list of what has come up, as a table. -/
def relOk (L Lf : Array Bool) (J : List Nat) : Bool := decide (L.size = Lf.size) && (J.all (fun i => decide (i < L.size)) && (List.range L.size).all (fun i => L.getD i true == (Lf.getD i true && !decide (i ∈ J))))
theorem rel_of {L Lf : Array Bool} {J : List Nat} (h : relOk L Lf J = true) : ∀ i, L.getD i true = (Lf.getD i true && !decide (i ∈ J)) := by
  unfold relOk at h
  simp only [Bool.and_eq_true, decide_eq_true_eq, List.all_eq_true] at h
  obtain ⟨h1, h2, h3⟩ := h
  intro i
  by_cases hi : i < L.size
  · exact beq_iff_eq.1 (h3 i (List.mem_range.2 hi))
  · have hJ : i ∉ J := fun hc => hi (h2 i hc)
    have hi2 : ¬ i < Lf.size := by omega
    simp [Array.getD, hi, hi2, hJ]
/-- What the region's entries keep. -/
def InvE (w : World) (B : Nat) (T : List (List UInt8 × Int)) (k : Nat) (W : World) : Prop := ∃ (n : Nat) (D : DataW Unit), n + k ≤ 100 ∧ OwnSE W B n D ∧ AllInE T D ∧ Below w.heap.size w W
theorem invE_put {w W : World} {B k : Nat} {T : List (List UInt8 × Int)} (hB : w.heap.size ≤ B) (h : InvE w B T (k + 1) W) (s : ByteArray) (hs : s.size ≤ 1000) (c : Int) (hc : (Lit.int .i64 c).wf = true) (hin : (s.data.toList, c) ∈ T) :
    ∃ W', (Instr.mapUpdate 24 (.map (some B)) (.string s) (.int .i64 c)).run Tryz.prog W = .ok () W' ∧ InvE w B T k W' := by
  obtain ⟨n, D, hn, ho, ha, hb⟩ := h
  obtain ⟨W', hr, ho', hg⟩ := ownSE_put ho (by omega) s hs c hc
  exact ⟨W', hr, n + 1, _, by omega, ho', allInE_put (World.ownsMap.isMap ho) ha _ c (isKeyE_of s hs) hin, hb.grown hg hb.size (fun b hb' => by injection hb' with hb'; omega)⟩
/-- What Parse, Check, Compose say of each text of a table. -/
def CfTblOk (T : List (List UInt8 × Int)) : Prop := ∀ (s : ByteArray) (c : Int), (s.data.toList, c) ∈ T → s.size ≤ 1000 ∧ ∃ l, inParse (byt s) true = .ok l ∧ cfB l c = true
section
variable {W : World} {ops : Array Oper} {rest : List Oper} {o : Oper} {a : Act} {Q : Exit → Act → World → Prop}
theorem cf_next (hg : o.guard = none) (it : Operand) (hop : o.op = Op.next it false) (B r n : Nat) (D : DataW Unit) (cnt : Nat) (T : List (List UInt8 × Int)) (hit : a.eval it = .pointer (some ⟨r, 0, none⟩)) (h : Hid (RngSE W B r n D cnt)) (hT : Hid (AllInE T D)) (hF : Hid (CfTblOk T))
    (hDone : wpList Tryz.prog ops Q rest (a.put o.dst (.tuple #[.bool false])) W)
    (hMore : ∀ (x : ByteArray) (c : Int) (w' : World) (l : List Nd), Hid (inParse (byt x) true = .ok l ∧ cfB l c = true ∧ (∃ cnt', RngSE w' B r n D cnt' ∧ cnt' < cnt) ∧ W.grownBy w' (some r)) → x.size ≤ 1000 →
      (Instr.entry (.pointer (some ⟨r, 0, none⟩))).run Tryz.prog w' = .ok (.tuple #[.string x, .int .i64 c]) w' → wpList Tryz.prog ops Q rest (a.put o.dst (.tuple #[.bool true, .string x, .int .i64 c])) w') :
    wpList Tryz.prog ops Q (o :: rest) a W := by
  refine next_SE hg it hop B r n D cnt hit h hDone (fun x c w' HF hen => ?_)
  obtain ⟨h1, h2, h3, h4⟩ := HF.out
  obtain ⟨g1, l, g2, g3⟩ := hF.out x c (hT.out _ c h1 h2)
  exact hMore x c w' l ⟨g2, g3, h3, h4⟩ g1 hen
end
/-- What the law's test asks of a table's entry. -/
theorem cfB_of {l : List Nd} {c : Int} (h : cfB l c = true) : TxG (l.map gn) ∧ Small (l.map gn) ∧ 0 < l.length ∧ l.length ≤ 100 ∧ (ckF (l.map gn)).1 = c ∧ ((((c == 0) != ((ckF (l.map gn)).2 == 0)) = false) ∨ c = 4) ∧ (c = 0 → 0 < (cmpL (nbrF (l.map gn)) (l.map gn)).length) := by
  unfold cfB at h
  simp only [Bool.and_eq_true, decide_eq_true_eq, Bool.or_eq_true] at h
  obtain ⟨h1, h2, h3, h4, h5, h6⟩ := h
  refine ⟨smB_tx h1, smB_small h1, h2, h3, eq_of_beq h4, ?_, fun hc => h6.resolve_left (fun hn => hn hc)⟩
  cases hb : ((c == 0) != ((ckF (l.map gn)).2 == 0)) with
  | false => exact .inl rfl
  | true =>
    rw [hb] at h5
    right
    simpa using h5
end Go.Proofs.YtnecapmnbaemiaaGreatDoor
