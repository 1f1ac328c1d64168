/- Chapter 12: what the law on forms needs: texts that are a node each, with how many nodes; texts that are none; the sums of texts in a region that draws. -/
import Derived.Test.YtclgahmgoiobaaaGreatDoorMI
import Derived.Test.YtclgahmgoiobaaaGreatDoorMA
set_option linter.unusedSimpArgs false
set_option linter.unusedVariables false
/-! ### InForms -/
namespace Go.Proofs.YtclgahmgoiobaaaGreatDoor
open Go.RowKit Go.Maps
set_option linter.unusedVariables false
set_option maxRecDepth 100000

def fmBad (x : Int) : List (List Int) := [[], [32], [91], [93], [123], [91, x], [91, x, 44, 93], [91, 44, x, 93], [91, x, 32, 98, 93, 93], [123, x, 125], [123, x, 58, 49, 125], [123, 58, 32, 49, 125], [123, 91, x, 93, 58, 32, 49, 125], [123, x, 58, 32, 49, 44, 125], [123, 38, 120, 32, x, 58, 32, 49, 125], [123, 42, x, 58, 32, 49, 125], [38, 120, 32, 42, x], [42], [38, 120, 32, 38, 121, 32, x], [39, x], [124, 32, x], [35, 32, x], [x, 32, 35, 32, 99], [x, 32], [45, 32, x], [63, 32, x], [x, 58, 32, 98], [91, 97, 58, 32, 98, 93], [91, x, 125], [37, x], [64]]
def fmTxt (x : Int) : List (List Int) := [[x, 10], [x, 13, 10], [0], [239, 187, 191, x], [255]]
def fmGood (x : Int) : List (List Int × Int) := [([x], 1), ([39, x, 39], 1), ([91, 93], 1), ([91, 32, 93], 1), ([123, 125], 1), ([91, x, 93], 2), ([91, 32, x, 32, 44, 32, 98, 32, 93], 3), ([123, x, 58, 32, 49, 125], 3), ([123, x, 58, 32, 125], 3), ([123, x, 58, 44, 32, 98, 58, 32, 50, 125], 5), ([123, 39, x, 39, 32, 58, 32, 91, 49, 93, 125], 4), ([91, 91, 93, 44, 32, 123, 125, 93], 3), ([42, x], 1), ([38, 120, 32, x], 1), ([33, 116], 1), ([38, 120, 32, 33, 33, 115, 116, 114], 1), ([91, 42, x, 32, 44, 32, 42, 98, 93], 3), ([91, 33, 116, 32, 44, 32, x, 93], 3), ([38, 120, 32, 91, x, 93], 2), ([34, x, 92, 110, 34], 1), ([45, x], 1), ([32, x], 1)]
def errB (q : Int) (fl : Bool) (l : List Int) : Bool := match inParse l fl with
  | .error e => e == q
  | .ok _ => false
def okB (fl : Bool) (p : List Int × Int) : Bool := match inParse p.1 fl with
  | .error _ => false
  | .ok l => (l.length : Int) == p.2 && decide (0 < l.length)
theorem fm_bad : ∀ k : Fin 8, ∀ fl : Bool, (fmBad (97 + (k.val : Int))).all (errB 2 fl) = true := by decide +kernel
theorem fm_txt : ∀ k : Fin 8, ∀ fl : Bool, (fmTxt (97 + (k.val : Int))).all (errB 1 fl) = true := by decide +kernel
theorem fm_good : ∀ k : Fin 8, ∀ fl : Bool, (fmGood (97 + (k.val : Int))).all (okB fl) = true := by decide +kernel
theorem errB_eq {q : Int} {fl : Bool} {l : List Int} (h : errB q fl l = true) : inParse l fl = .error q := by
  unfold errB at h
  split at h
  · rename_i e he; rw [he, eq_of_beq h]
  · cases h
theorem okB_eq {fl : Bool} {p : List Int × Int} (h : okB fl p = true) : ∃ l, inParse p.1 fl = .ok l ∧ (l.length : Int) = p.2 ∧ 0 < l.length := by
  unfold okB at h
  split at h
  · cases h
  · rename_i l hl
    simp only [Bool.and_eq_true, decide_eq_true_eq] at h
    exact ⟨l, hl, eq_of_beq h.1, h.2⟩
theorem good_len (x : Int) (p : List Int × Int) (h : p ∈ fmGood x) : p.1.length ≤ 1000 := by
  have : (fmGood x).all (fun p => decide (p.1.length ≤ 1000)) = true := rfl
  exact of_decide_eq_true (List.all_eq_true.1 this _ h)
theorem bad_len (x : Int) (p : List Int) (h : p ∈ fmBad x) : p.length ≤ 1000 := by
  have : (fmBad x).all (fun p => decide (p.length ≤ 1000)) = true := rfl
  exact of_decide_eq_true (List.all_eq_true.1 this _ h)
theorem txt_len (x : Int) (p : List Int) (h : p ∈ fmTxt x) : p.length ≤ 1000 := by
  have : (fmTxt x).all (fun p => decide (p.length ≤ 1000)) = true := rfl
  exact of_decide_eq_true (List.all_eq_true.1 this _ h)
theorem fm_letter : ∀ k : Fin 8, byt (((⟨#[97, 98, 99, 100, 101, 102, 103, 104]⟩ : ByteArray).extract k.val 8).extract 0 1) = [97 + (k.val : Int)] := by decide +kernel
theorem run_add (x y z : ByteArray) (h : x ++ y = z) (hs : x.size + y.size ≤ 1000) (V : World) : (binOp .add 9 (.string x) (.string y)).run Tryz.prog V = .ok (.string z) V := by
  subst h
  simp [go_sem]
  omega
theorem add_exec (o : Oper) (x y : Operand) (t : TypeId) (ho : o.op = .binOp .add 9 x y t) (a : Act) (sx sy z : ByteArray) (hx : a.eval x = .string sx) (hy : a.eval y = .string sy) (hz : sx ++ sy = z) (hs : sx.size + sy.size ≤ 1000) (V : World) :
    (execOp a.eval o).run Tryz.prog V = .ok (.value (.string z)) V := by
  have e : (eqGuard .add 9 x y (.string sx) (.string sy)).run Tryz.prog V = .ok () V := rfl
  simp [execOp, ho, hx, hy, e, run_add sx sy z hz hs V, Result.andThen]
theorem move_exec (o : Oper) (x : Operand) (ho : o.op = .move x) (a : Act) (v : Value) (hx : a.eval x = v) (V : World) : (execOp a.eval o).run Tryz.prog V = .ok (.value v) V := by
  simp [execOp, ho, hx]
theorem insert_exec (o : Oper) (m k x : Operand) (t : TypeId) (ho : o.op = .insert t m k x) (a : Act) (vm vk vx : Value) (hm : a.eval m = vm) (hk : a.eval k = vk) (hx : a.eval x = vx) (V V' : World) (h : (Instr.mapUpdate t vm vk vx).run Tryz.prog V = .ok () V') :
    (execOp a.eval o).run Tryz.prog V = .ok .skip V' := by
  simp [execOp, ho, hm, hk, hx, h, Result.andThen]
theorem range_exec (o : Oper) (m : Operand) (t : TypeId) (ho : o.op = .range t m) (a : Act) (vm v : Value) (hm : a.eval m = vm) (V V' : World) (h : (Instr.range t vm).run Tryz.prog V = .ok v V') :
    (execOp a.eval o).run Tryz.prog V = .ok (.value v) V' := by
  simp [execOp, ho, hm, h, Result.andThen]
theorem makeMap_exec (o : Oper) (t : TypeId) (ho : o.op = .makeMap t none) (a : Act) (V : World) : (execOp a.eval o).run Tryz.prog V = .ok (.value (.map (some V.heap.size))) (V.alloc (.map #[] 0)) := by
  simp [execOp, ho, run_makeMap, Result.andThen]
theorem gate_gen {P : Program} {ops : Array Oper} {Q : Exit → Act → World → Prop} {md : Region.Mode} {S : World → Prop} {t n : Nat} {L : Array Bool} {a : Act} {w : World} (h : ∀ a0 : Act, a0 = a → wpGate P md ops Q S t n L a0 w) : wpGate P md ops Q S t n L a w := h a rfl
/-- The list of what has come up, as a table. -/
def relOk (L Lf : Array Bool) (J : List Nat) : Bool := decide (L.size = Lf.size) && (J.all (fun i => decide (i < L.size)) && (List.range L.size).all (fun i => L.getD i true == (Lf.getD i true && !decide (i ∈ J))))
theorem rel_of {L Lf : Array Bool} {J : List Nat} (h : relOk L Lf J = true) : ∀ i, L.getD i true = (Lf.getD i true && !decide (i ∈ J)) := by
  unfold relOk at h
  simp only [Bool.and_eq_true, decide_eq_true_eq, List.all_eq_true] at h
  obtain ⟨h1, h2, h3⟩ := h
  intro i
  by_cases hi : i < L.size
  · exact beq_iff_eq.1 (h3 i (List.mem_range.2 hi))
  · have hJ : i ∉ J := fun hc => hi (h2 i hc)
    have hi2 : ¬ i < Lf.size := by omega
    simp [Array.getD, hi, hi2, hJ]
/-- What the region's entries keep. -/
def InvM (w : World) (B : Nat) (T : List (List UInt8 × Int)) (k : Nat) (W : World) : Prop := ∃ (n : Nat) (D : DataW Unit), n + k ≤ 100 ∧ OwnSI W B n D ∧ AllIn T D ∧ Below w.heap.size w W
theorem inv_put {w W : World} {B k : Nat} {T : List (List UInt8 × Int)} (hB : w.heap.size ≤ B) (h : InvM w B T (k + 1) W) (s : ByteArray) (hs : s.size ≤ 1000) (c : Int) (hc : (Lit.int .i64 c).wf = true) (hin : (s.data.toList, c) ∈ T) :
    ∃ W', (Instr.mapUpdate 23 (.map (some B)) (.string s) (.int .i64 c)).run Tryz.prog W = .ok () W' ∧ InvM w B T k W' := by
  obtain ⟨n, D, hn, ho, ha, hb⟩ := h
  obtain ⟨W', hr, ho', hg⟩ := ownSI_put ho (by omega) s hs c hc
  exact ⟨W', hr, n + 1, _, by omega, ho', allIn_put (World.ownsMap.isMap ho) ha _ c (isKey_of s hs) hin, hb.grown hg hb.size (fun b hb' => by injection hb' with hb'; omega)⟩
/-- What Parse says of each text of a table. -/
def TblOk (fl : Bool) (T : List (List UInt8 × Int)) : Prop := ∀ (s : ByteArray) (c : Int), (s.data.toList, c) ∈ T → s.size ≤ 1000 ∧ ∃ l, inParse (byt s) fl = .ok l ∧ (l.length : Int) = c ∧ 0 < l.length
section
variable {W : World} {ops : Array Oper} {rest : List Oper} {o : Oper} {a : Act} {Q : Exit → Act → World → Prop}
theorem next_forms (hg : o.guard = none) (it : Operand) (hop : o.op = Op.next it false) (B r n : Nat) (D : DataW Unit) (cnt : Nat) (T : List (List UInt8 × Int)) (fl : Bool) (hit : a.eval it = .pointer (some ⟨r, 0, none⟩)) (h : Hid (RngSI W B r n D cnt)) (hT : Hid (AllIn T D)) (hF : Hid (TblOk fl T))
    (hDone : wpList Tryz.prog ops Q rest (a.put o.dst (.tuple #[.bool false])) W)
    (hMore : ∀ (x : ByteArray) (c : Int) (w' : World) (l : List Nd), Hid (inParse (byt x) fl = .ok l ∧ (l.length : Int) = c ∧ 0 < l.length ∧ (∃ cnt', RngSI w' B r n D cnt' ∧ cnt' < cnt) ∧ W.grownBy w' (some r)) → x.size ≤ 1000 →
      (Instr.entry (.pointer (some ⟨r, 0, none⟩))).run Tryz.prog w' = .ok (.tuple #[.string x, .int .i64 c]) w' → wpList Tryz.prog ops Q rest (a.put o.dst (.tuple #[.bool true, .string x, .int .i64 c])) w') :
    wpList Tryz.prog ops Q (o :: rest) a W := by
  refine next_SI hg it hop B r n D cnt hit h hDone (fun x c w' HF hen => ?_)
  obtain ⟨h1, h2, h3, h4⟩ := HF.out
  obtain ⟨g1, l, g2, g3, g4⟩ := hF.out x c (hT.out _ c h1 h2)
  exact hMore x c w' l ⟨g2, g3, g4, h3, h4⟩ g1 hen
end
end Go.Proofs.YtclgahmgoiobaaaGreatDoor
