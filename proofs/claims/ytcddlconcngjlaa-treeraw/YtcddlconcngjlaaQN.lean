/- Same of numbers, Node, Nodes over nodes of any kind: two lists that are told alike are the same. · Rows of whole numbers: are they alike? (scholiumkeep.Same) · Rows of whole numbers, nodes, lists of nodes: are they alike? (slices.Equal, scholiumkeep.Same; tree.sameNode, slices.EqualFunc, tree.Same.) Written by tools/tree/same.py. · Chapter 13: trees in memory, as the laws use them: made, cut out, put in. · Chapter 13: the law's own example. -/
import Derived.Test.YtcddlconcngjlaaQL
import Derived.Test.YtcddlconcngjlaaQM
set_option linter.unusedSimpArgs false
set_option linter.unusedVariables false
namespace Go.Proofs.Ytcddlconcngjlaa
open Go.RowKit
set_option linter.unusedVariables false
set_option linter.unusedSimpArgs false
set_option maxRecDepth 100000
/-- The same node, whatever its style and its places. -/
def SameG (x y : Gn) : Prop := x.kind = y.kind ∧ x.tag = y.tag ∧ x.anchor = y.anchor ∧ x.value = y.value ∧ x.kids = y.kids
theorem SameG.refl (x : Gn) : SameG x x := ⟨rfl, rfl, rfl, rfl, rfl⟩
def SameL (l m : List Gn) : Prop := l.length = m.length ∧ ∀ (i : Nat) (x y : Gn), l[i]? = some x → m[i]? = some y → SameG x y
theorem SameL.refl (l : List Gn) : SameL l l := ⟨rfl, fun i x y h h' => by rw [h] at h'; injection h' with h'; subst h'; exact SameG.refl x⟩
theorem made_tree {w W : World} {A1 A2 : Option Addr} {n1 c1 n2 c2 : Nat} (hp : PlanIn w A1 n1 c1 A2 n2 c2) (hb : Below w.heap.size w W) :
    Calls Try.prog 7 #[.agg #[.slice A1 n1 c1, .slice A2 n2 c2]] W fun e w' => ∃ (g n cap : Nat) (l : List Gn) (E : Nat → Nat), e = .returned (.slice (some ⟨g, 0, none⟩) n cap) ∧ 1 ≤ n ∧ n ≤ 65537 ∧ n ≤ cap ∧ cap ≤ 9223372036854775807 ∧ TreeIn w' (some ⟨g, 0, none⟩) n cap l E ∧ Below W.heap.size W w' := by
  refine (made_at hp hb).mono ?_
  rintro e W1 ⟨g, n, cap, P, rfl, hP, hn, hT, hbb⟩
  have hgl := hP.gl hn
  refine ⟨g, n, cap, (lst P).map gn, tEnd (lst P), rfl, ?_, ?_, hgl.le, hgl.max, ⟨hgl, (ends_of hT.tree).ge⟩, hbb⟩
  · rw [← hn, ← lst_len]; exact hT.pos
  · rw [← hn, ← lst_len]; exact hT.len
def wkG (kd : Int) (ks : List Int) : Gn := ⟨kd, 0, ⟨#[]⟩, ⟨#[]⟩, ⟨#[]⟩, 0, 0, 0, 0, ks⟩
def wkL : List Gn := [wkG 2 [1], wkG 2 [2], wkG 1 []]
theorem wk_valid : tValidF wkL = true := by decide
theorem wk_depth : depthF wkL = 2 := by decide
theorem wk_nil : tValidF [] = false := by decide
set_option maxHeartbeats 4000000 in
theorem twakes_at (W : World) : Calls Try.prog 20 #[] W fun e w' => e = .returned (.bool true) ∧ Below W.heap.size W w' := by
  obtain ⟨S, hS⟩ : ∃ z, W.heap.size = z := ⟨_, rfl⟩
  obtain ⟨W1, hW1⟩ : ∃ z, W.alloc (.cells #[.int .i64 1] 3) = z := ⟨_, rfl⟩
  obtain ⟨W2, hW2⟩ : ∃ z, W1.alloc (.cells #[.int .i64 2] 3) = z := ⟨_, rfl⟩
  obtain ⟨W3, hW3⟩ : ∃ z, W2.alloc (.cells #[.int .i64 2, .int .i64 0, .string ⟨#[]⟩, .string ⟨#[]⟩, .string ⟨#[]⟩, .int .i64 0, .int .i64 0, .int .i64 0, .int .i64 0, .slice (some ⟨S, 0, none⟩) 1 1, .int .i64 2, .int .i64 0, .string ⟨#[]⟩, .string ⟨#[]⟩, .string ⟨#[]⟩, .int .i64 0, .int .i64 0, .int .i64 0, .int .i64 0, .slice (some ⟨S + 1, 0, none⟩) 1 1, .int .i64 1, .int .i64 0, .string ⟨#[]⟩, .string ⟨#[]⟩, .string ⟨#[]⟩, .int .i64 0, .int .i64 0, .int .i64 0, .int .i64 0, .slice none 0 0] 41) = z := ⟨_, rfl⟩
  have s1 : W1.heap.size = S + 1 := by rw [← hW1, ← hS]; simp
  have s2 : W2.heap.size = S + 1 + 1 := by rw [← hW2, ← s1]; simp
  have b1 : Below W.heap.size W W1 := by rw [← hW1]; exact (Below.refl _ _).alloc (Nat.le_refl _) _
  have b2 : Below W1.heap.size W1 W2 := by rw [← hW2]; exact (Below.refl _ _).alloc (Nat.le_refl _) _
  have b3 : Below W2.heap.size W2 W3 := by rw [← hW3]; exact (Below.refl _ _).alloc (Nat.le_refl _) _
  have r1 : RdC W3 (some ⟨S, 0, none⟩) (ki [1]) := by
    have : RdC W1 (some ⟨S, 0, none⟩) (ki [1]) := by rw [← hW1]; exact RdC.new hS.symm (fun k v hv => by simpa [ki] using hv)
    exact this.below (below_step b2 b3)
  have r2 : RdC W3 (some ⟨S + 1, 0, none⟩) (ki [2]) := by
    have : RdC W2 (some ⟨S + 1, 0, none⟩) (ki [2]) := by rw [← hW2]; exact RdC.new s1.symm (fun k v hv => by simpa [ki] using hv)
    exact this.below b3
  have hcell : ∀ k, W3.cell? ⟨S + 1 + 1, k, none⟩ = (gksC [(wkG 2 [1], .slice (some ⟨S, 0, none⟩) 1 1), (wkG 2 [2], .slice (some ⟨S + 1, 0, none⟩) 1 1), (wkG 1 [], .slice none 0 0)])[k]? := fun k => by
    rw [← hW3, ← s2, World.cell?_alloc_mark]
    show (List.toArray _)[k]? = _
    rw [List.getElem?_toArray]
    rfl
  have hgl : GL W3 (some ⟨S + 1 + 1, 0, none⟩) 3 3 wkL := by
    refine ⟨rfl, Nat.le_refl _, by omega, fun e => by (cases e), fun i x hx => ⟨_, _, rfl, ?_⟩⟩
    have cells : ∀ (v : Value), [((wkG 2 [1], .slice (some ⟨S, 0, none⟩) 1 1) : GK), (wkG 2 [2], .slice (some ⟨S + 1, 0, none⟩) 1 1), (wkG 1 [], .slice none 0 0)][i]? = some (x, v) → ∀ (j : Nat) (u : Value), (gnC x v)[j]? = some u → W3.cell? ⟨S + 1 + 1, 0 + i * 10 + j, none⟩ = some u := by
      intro v hv j u hu
      rw [hcell, Nat.zero_add, gksC_at _ i j _ hv (by have := (List.getElem?_eq_some_iff.1 hu).1; exact this)]
      exact hu
    match i, hx, cells with
    | 0, hx, cells =>
      injection hx with hx; subst hx
      exact ⟨some ⟨S, 0, none⟩, 1, by decide, by omega, fun e => by (cases e), r1, cells _ rfl⟩
    | 1, hx, cells =>
      injection hx with hx; subst hx
      exact ⟨some ⟨S + 1, 0, none⟩, 1, by decide, by omega, fun e => by (cases e), r2, cells _ rfl⟩
    | 2, hx, cells =>
      injection hx with hx; subst hx
      exact ⟨none, 0, by decide, by omega, fun _ => rfl, RdC.nil _ _, cells _ rfl⟩
    | i + 3, hx, cells => simp [wkL] at hx
  have hsm : Small wkL := by
    intro x hx
    simp only [wkL, List.mem_cons, List.not_mem_nil, or_false] at hx
    rcases hx with rfl | rfl | rfl <;> simp [wkG]
  have HB : Hid (Below W.heap.size W W3) := below_step b1 (below_step b2 b3)
  have HV := Lib.hid (gvalid_at hgl (fun x hx => (hsm x hx).1) (by omega))
  have HD : Hid (∀ V, Below W3.heap.size W3 V → Calls Try.prog 14 #[.slice (some ⟨S + 1 + 1, 0, none⟩) 3 3] V fun e w' => e = .returned (.int .i64 2) ∧ Below V.heap.size V w') := fun V hV => by
    have := tdepth_at (hgl.below hV) hsm (by omega)
    rw [wk_depth] at this
    exact this
  have HN : Hid (∀ V : World, Calls Try.prog 23 #[.slice none 0 0] V fun e w' => e = .returned (.bool false) ∧ Below V.heap.size V w') := fun V => by
    have := gvalid_at (W := V) (A := none) (n := 0) (cap := 0) (l := []) ⟨rfl, Nat.le_refl _, by omega, fun _ => rfl, fun i x hx => by simp at hx⟩ (fun x hx => by simp at hx) (by omega)
    rw [wk_nil] at this
    exact this
  rw [wk_valid] at HV
  clear r1 r2 hcell hgl hsm b1 b2 b3
  go_enter Try.func20, Try.ntmps20
  go_upto_region 2 with fail
  clear hW1 hW2 hW3 hS s1 s2
  go_wp2_with fail
  refine HV.out.mono ?_
  rintro e w4 ⟨rfl, h4⟩
  have H4 := Lib.hid h4
  clear h4
  go_wp2_with fail
  refine (HD.out w4 H4.out).mono ?_
  rintro e w5 ⟨rfl, h5⟩
  have H5 := Lib.hid h5
  clear h5
  go_wp2_with fail
  refine (HN.out w5).mono ?_
  rintro e w6 ⟨rfl, h6⟩
  have H6 := Lib.hid h6
  clear h6
  go_wp2_with fail
  go_ret
  exact ⟨rfl, below_step (below_step (below_step HB.out H4.out) H5.out) H6.out⟩
end Go.Proofs.Ytcddlconcngjlaa
