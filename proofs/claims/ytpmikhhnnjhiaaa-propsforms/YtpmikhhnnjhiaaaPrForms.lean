/- What the law on forms needs: texts that are no props, texts of which Take says how far it goes; the sums of texts in a region that draws. -/
import Derived.Test.YtpmikhhnnjhiaaaPrLaw
import Derived.Test.YtpmikhhnnjhiaaaMapSI
import Derived.Test.YtpmikhhnnjhiaaaKeep
namespace Go.Proofs.Ytpmikhhnnjhiaaa
open Go.RowKit Go.Maps
set_option linter.unusedVariables false

def badL (x : Int) : List (List Int) := [[38], [38, 32, x], [38, x, 33], [38, x, 38, 98], [38, x, 32, 38, 98], [33, 120, 32, 33, 121], [33, 33], [33, 33, 32, 120], [33, x, 33], [33, 120, 33, 121], [33, 60, x, 62], [38, x, 44], [33, 120, 93], [38, 195, 169]]
def goodL (x : Int) : List (List Int × Int) := [([], 0), ([x], 0), ([32, 38, x], 0), ([38, x], 2), ([33], 1), ([33, 32, x], 1), ([33, 33, x, 32, 38, x, 32, 32, x], 6), ([38, x, 32, 32, 32], 2), ([42, x], 0)]
theorem bad_all : ∀ k : Fin 8, (badL (97 + (k.val : Int))).all (fun l => decide (takeP l = ([], [], 0, false))) = true := by decide +kernel
theorem good_all : ∀ k : Fin 8, (goodL (97 + (k.val : Int))).all (fun p => decide (((takeP p.1).2.2.1 : Int) = p.2) && (takeP p.1).2.2.2) = true := by decide +kernel
theorem letter_at : ∀ k : Fin 8, byt (((⟨#[97, 98, 99, 100, 101, 102, 103, 104]⟩ : ByteArray).extract k.val 8).extract 0 1) = [97 + (k.val : Int)] := by decide +kernel
theorem run_add (x y z : ByteArray) (h : x ++ y = z) (hs : x.size + y.size ≤ 1000) (V : World) : (binOp .add 9 (.string x) (.string y)).run Try.prog V = .ok (.string z) V := by
  subst h
  simp [go_sem]
  omega
theorem add_exec (o : Oper) (x y : Operand) (t : TypeId) (ho : o.op = .binOp .add 9 x y t) (a : Act) (sx sy z : ByteArray) (hx : a.eval x = .string sx) (hy : a.eval y = .string sy) (hz : sx ++ sy = z) (hs : sx.size + sy.size ≤ 1000) (V : World) :
    (execOp a.eval o).run Try.prog V = .ok (.value (.string z)) V := by
  have e : (eqGuard .add 9 x y (.string sx) (.string sy)).run Try.prog V = .ok () V := rfl
  simp [execOp, ho, hx, hy, e, run_add sx sy z hz hs V, Result.andThen]
theorem move_exec (o : Oper) (x : Operand) (ho : o.op = .move x) (a : Act) (v : Value) (hx : a.eval x = v) (V : World) : (execOp a.eval o).run Try.prog V = .ok (.value v) V := by
  simp [execOp, ho, hx]
theorem insert_exec (o : Oper) (m k x : Operand) (t : TypeId) (ho : o.op = .insert t m k x) (a : Act) (vm vk vx : Value) (hm : a.eval m = vm) (hk : a.eval k = vk) (hx : a.eval x = vx) (V V' : World) (h : (Instr.mapUpdate t vm vk vx).run Try.prog V = .ok () V') :
    (execOp a.eval o).run Try.prog V = .ok .skip V' := by
  simp [execOp, ho, hm, hk, hx, h, Result.andThen]
theorem range_exec (o : Oper) (m : Operand) (t : TypeId) (ho : o.op = .range t m) (a : Act) (vm v : Value) (hm : a.eval m = vm) (V V' : World) (h : (Instr.range t vm).run Try.prog V = .ok v V') :
    (execOp a.eval o).run Try.prog V = .ok (.value v) V' := by
  simp [execOp, ho, hm, h, Result.andThen]
theorem makeMap_exec (o : Oper) (t : TypeId) (ho : o.op = .makeMap t none) (a : Act) (V : World) : (execOp a.eval o).run Try.prog V = .ok (.value (.map (some V.heap.size))) (V.alloc (.map #[] 0)) := by
  simp [execOp, ho, run_makeMap, Result.andThen]
theorem gate_gen {P : Program} {ops : Array Oper} {Q : Exit → Act → World → Prop} {md : Region.Mode} {S : World → Prop} {t n : Nat} {L : Array Bool} {a : Act} {w : World} (h : ∀ a0 : Act, a0 = a → wpGate P md ops Q S t n L a0 w) : wpGate P md ops Q S t n L a w := h a rfl
/-- The list of what has come up, as a table. -/
def relOk (L Lf : Array Bool) (J : List Nat) : Bool := decide (L.size = Lf.size) && (J.all (fun i => decide (i < L.size)) && (List.range L.size).all (fun i => L.getD i true == (Lf.getD i true && !decide (i ∈ J))))
theorem rel_of {L Lf : Array Bool} {J : List Nat} (h : relOk L Lf J = true) : ∀ i, L.getD i true = (Lf.getD i true && !decide (i ∈ J)) := by
  unfold relOk at h
  simp only [Bool.and_eq_true, decide_eq_true_eq, List.all_eq_true] at h
  obtain ⟨h1, h2, h3⟩ := h
  intro i
  by_cases hi : i < L.size
  · exact beq_iff_eq.1 (h3 i (List.mem_range.2 hi))
  · have hJ : i ∉ J := fun hc => hi (h2 i hc)
    have hi2 : ¬ i < Lf.size := by omega
    simp [Array.getD, hi, hi2, hJ]
/-- What the region's entries keep. -/
def InvM (w : World) (B : Nat) (T : List (List UInt8 × Int)) (k : Nat) (W : World) : Prop := ∃ (n : Nat) (D : DataW Unit), n + k ≤ 100 ∧ OwnSI W B n D ∧ AllIn T D ∧ Below w.heap.size w W
theorem inv_put {w W : World} {B k : Nat} {T : List (List UInt8 × Int)} (hB : w.heap.size ≤ B) (h : InvM w B T (k + 1) W) (s : ByteArray) (hs : s.size ≤ 1000) (c : Int) (hc : (Lit.int .i64 c).wf = true) (hin : (s.data.toList, c) ∈ T) :
    ∃ W', (Instr.mapUpdate 29 (.map (some B)) (.string s) (.int .i64 c)).run Try.prog W = .ok () W' ∧ InvM w B T k W' := by
  obtain ⟨n, D, hn, ho, ha, hb⟩ := h
  obtain ⟨W', hr, ho', hg⟩ := ownSI_put ho (by omega) s hs c hc
  exact ⟨W', hr, n + 1, _, by omega, ho', allIn_put (World.ownsMap.isMap ho) ha _ c (isKey_of s hs) hin, hb.grown hg hb.size (fun b hb' => by injection hb' with hb'; omega)⟩
/-- What Take says of each text of a table. -/
def TblOk (T : List (List UInt8 × Int)) : Prop := ∀ (s : ByteArray) (c : Int), (s.data.toList, c) ∈ T → s.size ≤ 1000 ∧ ((takeP (byt s)).2.2.1 : Int) = c ∧ (takeP (byt s)).2.2.2 = true
section
variable {W : World} {ops : Array Oper} {rest : List Oper} {o : Oper} {a : Act} {Q : Exit → Act → World → Prop}
theorem next_forms (hg : o.guard = none) (it : Operand) (hop : o.op = Op.next it false) (B r n : Nat) (D : DataW Unit) (cnt : Nat) (T : List (List UInt8 × Int)) (hit : a.eval it = .pointer (some ⟨r, 0, none⟩)) (h : Hid (RngSI W B r n D cnt)) (hT : Hid (AllIn T D)) (hF : Hid (TblOk T))
    (hDone : wpList Try.prog ops Q rest (a.put o.dst (.tuple #[.bool false])) W)
    (hMore : ∀ (x : ByteArray) (c : Int) (w' : World) (cap : Nat) (W4 : World), Hid (((takeP (byt x)).2.2.1 : Int) = c ∧ (takeP (byt x)).2.2.2 = true ∧ (∃ cnt', RngSI w' B r n D cnt' ∧ cnt' < cnt) ∧ W.grownBy w' (some r) ∧ Bytes w' x cap W4) → x.size ≤ cap → cap ≤ 9223372036854775807 → x.size ≤ 1000 →
      (convert 9 28 (.string x)).run Try.prog w' = .ok (.slice (some ⟨w'.heap.size, 0, none⟩) x.size cap) W4 →
      (Instr.entry (.pointer (some ⟨r, 0, none⟩))).run Try.prog w' = .ok (.tuple #[.string x, .int .i64 c]) w' → wpList Try.prog ops Q rest (a.put o.dst (.tuple #[.bool true, .string x, .int .i64 c])) w') :
    wpList Try.prog ops Q (o :: rest) a W := by
  refine next_SI hg it hop B r n D cnt hit h hDone (fun x c w' HF hen => ?_)
  obtain ⟨h1, h2, h3, h4⟩ := HF.out
  obtain ⟨g1, g2, g3⟩ := hF.out x c (hT.out _ c h1 h2)
  obtain ⟨cap, W4, B4⟩ := bytes_of x (by omega) w'
  exact hMore x c w' cap W4 ⟨g2, g3, h3, h4, B4⟩ B4.le B4.max g1 B4.run hen
end
end Go.Proofs.Ytpmikhhnnjhiaaa
