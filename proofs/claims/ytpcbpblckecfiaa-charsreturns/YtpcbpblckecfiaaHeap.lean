/- Copy, Cut: lists of bytes in new memory. -/
import Derived.Test.YtpcbpblckecfiaaRefCheck
import Derived.Maps.AppendAt
import Derived.Laws.CopyRow
namespace Go.Proofs.Ytpcbpblckecfiaa
open Go.RowKit
set_option linter.unusedVariables false

/-- The call answers a list of bytes, zs, in memory of its own. -/
def NewB (w : World) (zs : List Int) (e : Ending) (w' : World) : Prop :=
  ∃ A n cap, e = .returned (.slice A n cap) ∧ zs.length = n ∧ n ≤ cap ∧ cap ≤ 9223372036854775807 ∧ RdB w' A zs ∧ Below w.heap.size w w'

theorem add_plain (g k : Nat) : (⟨g, 0, none⟩ : Addr).add k = ⟨g, k, none⟩ := by unfold Addr.add; split <;> simp_all
theorem add_plain' (b off k : Nat) : (⟨b, off, none⟩ : Addr).add k = ⟨b, off + k, none⟩ := by unfold Addr.add; split <;> simp_all

theorem RdB.own {w : World} {base n cap : Nat} {A : Option Addr} {zs : List Int} (h : w.ownsRow base 5 1 (.slice A n cap) n (zs.map (Value.int .u8))) : RdB w A zs := by
  intro k z hz
  rcases h.2 with ⟨_, h0⟩ | ⟨g, cap', cur, hv, _, hg, _, _, _, ht⟩
  · have := h.1
    have hk := (List.getElem?_eq_some_iff.1 hz).1
    simp at this
    omega
  · injection hv with e1 e2 e3
    subst e1
    refine ⟨g, 0, rfl, ?_⟩
    have := h.cells (g := g) rfl k (.int .u8 z) (by simp [hz])
    rw [add_plain] at this
    rwa [Nat.zero_add]

theorem run_append_bytes (w : World) (base : Nat) (v : Value) (n : Nat) (zs : List Int) (hown : w.ownsRow base 5 1 v n (zs.map (Value.int .u8))) (hbase : base ≤ w.heap.size)
    (A : Option Addr) (m c : Nat) (ys : List Int) (hm : ys.length = m) (hr : RdB w A ys) (hsz : n + m ≤ 1000000000) :
    ∃ v' w', (Builtin.append_ #[27, 27] 27 #[v, .slice A m c]).run Try.prog w = .ok v' w' ∧ w'.ownsRow base 5 1 v' (n + m) ((zs ++ ys).map (Value.int .u8)) ∧ w.grownBy w' v.ownBlock ∧
      (v'.ownBlock = v.ownBlock ∨ v'.ownBlock = some w.heap.size) := by
  obtain ⟨i, hi, hz, h1, h2⟩ := info_parts byte_info
  cases A with
  | none =>
    have h0 : ys = [] := by
      cases ys with
      | nil => rfl
      | cons y ys => obtain ⟨b, off, e, _⟩ := hr 0 y rfl; cases e
    subst h0
    obtain rfl : m = 0 := by simpa using hm.symm
    refine ⟨v, w, ?_, by simpa using hown, World.grownBy.refl w _, .inl rfl⟩
    rcases hown.2 with ⟨rfl, rfl⟩ | ⟨g, cap, cur, rfl, _, _, hnc, _⟩
    · simp [Builtin.append_, run_underlying Try.underlying27, sizeOf, typeInfo, hi, Builtin.lenOf, Builtin.firstCells]
    · simp [Builtin.append_, run_underlying Try.underlying27, sizeOf, typeInfo, hi, Builtin.lenOf, Builtin.firstCells, hnc, storeCells]
  | some ad =>
    obtain ⟨v', w', hrun, ho, hg, _, hv⟩ := run_append_own_at (P := Try.prog) w base 27 27 5 i _ 1 1 Try.underlying27 hi hz h1 h2 rfl (by omega) v n _ hown ad m c (ys.map (Value.int .u8)) (by simp [hm]) (by
      intro j u hu
      rw [List.getElem?_map] at hu
      cases hy : ys[j]? with
      | none => rw [hy] at hu; simp at hu
      | some y =>
        rw [hy] at hu
        simp at hu
        subst hu
        obtain ⟨b, off, e, hc⟩ := hr j y hy
        injection e with e
        subst e
        rw [add_plain']
        exact hc) (by intro u hu; simp at hu; obtain ⟨y, _, rfl⟩ := hu; rfl) (by unfold maxLen; omega) (by omega) hbase
    exact ⟨v', w', hrun, by simpa using ho, hg, hv⟩

theorem own_nil (w : World) (base : Nat) : w.ownsRow base 5 1 (.slice none 0 0) 0 (([] : List Int).map (Value.int .u8)) := ⟨by simp, .inl ⟨rfl, rfl⟩⟩

theorem own_form {w : World} {base n : Nat} {v : Value} {xs : List Value} (h : w.ownsRow base 5 1 v n xs) : ∃ A cap, v = .slice A n cap ∧ n ≤ cap ∧ cap ≤ 9223372036854775807 := by
  rcases h.2 with ⟨rfl, rfl⟩ | ⟨g, cap, cur, rfl, _, _, hnc, hm, _⟩
  · exact ⟨_, _, rfl, Nat.le_refl _, by omega⟩
  · exact ⟨_, _, rfl, hnc, by unfold maxLen at hm; omega⟩

/-- An append whose run is known. -/
theorem wpList_append_known {P : Program} {w : World} {ops : Array Oper} {rest : List Oper} {o : Oper} {a : Act} {Q : Exit → Act → World → Prop} (hgd : o.guard = none) (s x : Operand) (t : TypeId)
    (ho : o.op = .call { callee := .builtin .append, args := #[s, x], argTypes := #[t, t] }) (v1 v2 v' : Value) (w' : World) (hs : a.eval s = v1) (hx : a.eval x = v2)
    (hrun : (Builtin.append_ #[t, t] o.type #[v1, v2]).run P w = .ok v' w') (h : wpList P ops Q rest (a.put o.dst v') w') : wpList P ops Q (o :: rest) a w :=
  wpList_plain hgd fun _ hK => by
    unfold Oper.wp execOp
    simp only [ho, resolve, invoke, builtin, Sem.run_bind, Sem.run_pure, Result.andThen_ok, List.map_toArray, List.map_cons, List.map_nil, hs, hx, hrun]
    exact hK _ _ h

set_option maxHeartbeats 1000000 in
theorem copy_any (A : Option Addr) (n c : Nat) (zs : List Int) (w : World) (hl : zs.length = n) (hn : n ≤ 1000000) (hr : RdB w A zs) :
    Calls Try.prog 32 #[.slice A n c] w (NewB w zs) := by
  obtain ⟨v', w', hrun, ho, hg, hv⟩ := run_append_bytes w w.heap.size _ 0 [] (own_nil w _) (Nat.le_refl _) A n c zs hl hr (by omega)
  obtain ⟨A', cap', rfl, h1, h2⟩ := own_form ho
  have HO := Lib.hid ho
  have HG := Lib.hid hg
  have HRUN := Lib.hid hrun
  clear ho hg hv hr hrun
  go_enter Try.func32, Try.ntmps32
  go_wp2_with (at_builtin; refine wpList_append_known rfl _ (.tmp 3) 27 rfl (.slice none 0 0) (.slice A n c) _ _ rfl rfl HRUN.out ?_)
  go_ret
  have e0 : 0 + n = n := by omega
  rw [e0] at h1
  have ho := HO.out
  simp only [List.nil_append, e0] at ho
  refine ⟨A', n, cap', by simp, hl, h1, h2, RdB.own ho, ?_⟩
  exact (Below.refl _ _).grown HG.out (Nat.le_refl _) (by simp [Value.ownBlock])

theorem RdB.take {w : World} {A : Option Addr} {zs : List Int} (h : RdB w A zs) (m : Nat) : RdB w A (zs.take m) := by
  intro k z hz
  rw [List.getElem?_take] at hz
  split at hz
  · exact h k z hz
  · cases hz
theorem Byte.take {zs : List Int} (h : Byte zs) (m : Nat) : Byte (zs.take m) := fun z hz => h z (List.mem_of_mem_take hz)

set_option maxHeartbeats 1000000 in
theorem cut_any (A : Option Addr) (n c k : Nat) (zs : List Int) (w : World) (hl : zs.length = n) (hnc : n ≤ c) (hc : c ≤ 9223372036854775807) (hk : k ≤ 1000000) (hr : RdB w A zs) (hA : A = none → c = 0) :
    Calls Try.prog 20 #[.slice A n c, .int .i64 k] w (NewB w (zs.take k)) := by
  have hr' := hr.take k
  have HR := Lib.hid hr'
  have HL := Lib.hid hl
  clear hr hr' hl
  cases A with
  | none =>
    obtain rfl : c = 0 := hA rfl
    obtain rfl : n = 0 := by omega
    have h0 : zs.take k = [] := List.eq_nil_of_length_eq_zero (by rw [List.length_take, HL.out]; omega)
    rw [h0] at HR ⊢
    clear h0 hA
    go_enter Try.func20, Try.ntmps20
    go_wp2_with fail
    refine (copy_any none 0 0 [] w rfl (by omega) HR.out).mono ?_
    rintro e w' ⟨A', n', cap', rfl, h1, h2, h3, h4, h5⟩
    have H4 := Lib.hid h4
    have H5 := Lib.hid h5
    have H1 := Lib.hid h1
    clear h4 h5 h1
    go_wp2
    go_ret
    exact ⟨A', n', cap', rfl, H1.out, h2, h3, H4.out, H5.out⟩
  | some ad =>
    by_cases hkn : k < n
    · clear hA
      go_enter Try.func20, Try.ntmps20
      go_wp2_with fail
      refine (copy_any (some ad) k c (zs.take k) w (by rw [List.length_take, HL.out]; omega) (by omega) HR.out).mono ?_
      rintro e w' ⟨A', n', cap', rfl, h1, h2, h3, h4, h5⟩
      have H4 := Lib.hid h4
      have H5 := Lib.hid h5
      have H1 := Lib.hid h1
      clear h4 h5 h1
      go_wp2
      go_ret
      exact ⟨A', n', cap', rfl, H1.out, h2, h3, H4.out, H5.out⟩
    · clear hA
      go_enter Try.func20, Try.ntmps20
      go_wp2_with fail
      refine (copy_any (some ad) n c (zs.take k) w (by rw [List.length_take, HL.out]; omega) (by omega) HR.out).mono ?_
      rintro e w' ⟨A', n', cap', rfl, h1, h2, h3, h4, h5⟩
      have H4 := Lib.hid h4
      have H5 := Lib.hid h5
      have H1 := Lib.hid h1
      clear h4 h5 h1
      go_wp2
      go_ret
      exact ⟨A', n', cap', rfl, H1.out, h2, h3, H4.out, H5.out⟩
end Go.Proofs.Ytpcbpblckecfiaa
