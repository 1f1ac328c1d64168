/- Do: b with all splices done, in memory of the call's own. -/
import Derived.Test.YtegamojidckmcaaSpValid
import Derived.Lib.AppendStr
namespace Go.Proofs.Ytegamojidckmcaa
open Go.RowKit
set_option linter.unusedVariables false

theorem wpList_append_str {P : Program} {w : World} {ops : Array Oper} {rest : List Oper} {o : Oper} {a : Act} {Q : Exit → Act → World → Prop} (hgd : o.guard = none) (s x : Operand) (t u : TypeId)
    (ho : o.op = .call { callee := .builtin .append, args := #[s, x], argTypes := #[t, u] }) (v1 v2 v' : Value) (w' : World) (hs : a.eval s = v1) (hx : a.eval x = v2)
    (hrun : (Builtin.append_ #[t, u] o.type #[v1, v2]).run P w = .ok v' w') (h : wpList P ops Q rest (a.put o.dst v') w') : wpList P ops Q (o :: rest) a w :=
  wpList_plain hgd fun _ hK => by
    unfold Oper.wp execOp
    simp only [ho, resolve, invoke, builtin, Sem.run_bind, Sem.run_pure, Result.andThen_ok, List.map_toArray, List.map_cons, List.map_nil, hs, hx, hrun]
    exact hK _ _ h
theorem strCells_byt (s : ByteArray) : Lib.strCells s = (byt s).map (Value.int .u8) := by
  unfold Lib.strCells byt; rw [List.map_map]; rfl
theorem run_append_text (w : World) (base : Nat) (v : Value) (n : Nat) (zs : List Int) (hown : w.ownsRow base 5 1 v n (zs.map (Value.int .u8))) (hbase : base ≤ w.heap.size) (s : ByteArray) (hsz : n + s.size ≤ 1000000000) :
    ∃ v' w', (Builtin.append_ #[23, 9] 23 #[v, .string s]).run Try.prog w = .ok v' w' ∧ w'.ownsRow base 5 1 v' (n + s.size) ((zs ++ byt s).map (Value.int .u8)) ∧ w.grownBy w' v.ownBlock := by
  obtain ⟨i, hi, hz, h2, h3⟩ := info_parts byte_info
  obtain ⟨v', w', hrun, ho, hg, _⟩   := Lib.run_append_own_string (P := Try.prog) (w := w) base 23 9 23 5 i Try.underlying23 Try.underlying9 hi hz h2 h3 v n _ hown s (by unfold maxLen; omega) (by omega) hbase
  refine ⟨v', w', hrun, ?_, hg⟩
  rw [List.map_append, ← strCells_byt]; exact ho

/-- A piece of bytes: where its address leads. -/
theorem slice_lh (A : Option Addr) (n c lo hi : Nat) (zs : List Int) (hl : zs.length = n) (hnc : n ≤ c) (hA : A = none → c = 0) (h1 : lo ≤ hi) (h2 : hi ≤ n) : ∃ A', 
    (∀ W, (Instr.slice 23 (.slice A n c) (some (.int .i64 (lo : Int))) (some (.int .i64 (hi : Int))) none).run Try.prog W = .ok (.slice A' (hi - lo) (c - lo)) W) ∧ (A' = none → c - lo = 0) ∧
    ∀ W, RdB W A zs → RdB W A' ((zs.drop lo).take (hi - lo)) := by
  obtain ⟨i, hi', hz, hs1, _⟩ := info_parts byte_info
  have hel : Try.prog.elem 23 = 5 := by kernel_rfl
  have hun : Try.prog.underlying 23 = some (.slice (Try.prog.elem 23)) := by rw [hel]; exact Try.underlying23
  have hrun : ∀ W, (Instr.slice 23 (.slice A n c) (some (.int .i64 (lo : Int))) (some (.int .i64 (hi : Int))) none).run Try.prog W = .ok (sliced A lo hi c 1) W := by
    intro W
    rw [run_slice_lh W 23 A n c hun .i64 .i64 _ _ (by omega) (by omega) (by omega), hel]
    simp [sizeOf, typeInfo, hi', hs1, sliced]
  cases A with
  | none =>
    obtain rfl : c = 0 := hA rfl
    refine ⟨none, fun W => by rw [hrun W]; simp [sliced], fun _ => by omega, fun W h => ?_⟩
    have := h.none_
    subst this; simp; exact RdB.nil _ _
  | some a =>
    by_cases h : c = lo
    · refine ⟨some a, fun W => by rw [hrun W]; simp [sliced, h], fun h' => (by cases h'), fun W hr => ?_⟩
      have : hi - lo = 0 := by omega
      rw [this]; simp; exact RdB.nil _ _
    · refine ⟨some (a.add lo), fun W => by rw [hrun W]; simp [sliced, h], fun h' => (by cases h'), fun W hr => ?_⟩
      by_cases h0 : zs = []
      · subst h0; simp; exact RdB.nil _ _
      · obtain ⟨b, off, e, _⟩ := hr.addr (List.length_pos_iff.2 h0)
        injection e with e; subst e
        rw [add_plain]
        exact (hr.drop lo).take _
theorem slice_l (A : Option Addr) (n c lo : Nat) (zs : List Int) (hl : zs.length = n) (hnc : n ≤ c) (hA : A = none → c = 0) (h1 : lo ≤ n) : ∃ A', 
    (∀ W, (Instr.slice 23 (.slice A n c) (some (.int .i64 (lo : Int))) none none).run Try.prog W = .ok (.slice A' (n - lo) (c - lo)) W) ∧ (A' = none → c - lo = 0) ∧
    ∀ W, RdB W A zs → RdB W A' (zs.drop lo) := by
  obtain ⟨A', hr, h2, h3⟩ := slice_lh A n c lo n zs hl hnc hA h1 (Nat.le_refl _)
  refine ⟨A', fun W => ?_, h2, fun W h => ?_⟩
  · have hel : Try.prog.elem 23 = 5 := by kernel_rfl
    have hun : Try.prog.underlying 23 = some (.slice (Try.prog.elem 23)) := by rw [hel]; exact Try.underlying23
    rw [← hr W, run_slice_lh W 23 A n c hun .i64 .i64 _ _ (by omega) (by omega) (by omega), run_slice_l W 23 A n c hun .i64 _ (by omega) (by omega)]
    simp
  · have := h3 W h
    rwa [List.take_of_length_le (by rw [List.length_drop]; omega)] at this

/-- Bytes and a text put behind bytes of our own; a block that was made ahead stays. -/
theorem do_step (w W : World) (v : Value) (out : List Int) (hown : W.ownsRow w.heap.size 5 1 v out.length (out.map (Value.int .u8))) (hb : Below w.heap.size w W) (o1 : Obj)
    (A : Option Addr) (m c : Nat) (ys : List Int) (hm : ys.length = m) (hr : RdB W A ys) (s : ByteArray) (hsz : out.length + m + s.size ≤ 1000000000) :
    ∃ v2 W2 A3 cap3 W3, (Builtin.append_ #[23, 23] 23 #[v, .slice A m c]).run Try.prog (W.alloc o1) = .ok v2 W2 ∧
      (Builtin.append_ #[23, 9] 23 #[v2, .string s]).run Try.prog W2 = .ok (.slice A3 (out.length + m + s.size) cap3) W3 ∧
      W2.heap[W.heap.size]? = some o1 ∧ W3.heap[W.heap.size]? = some o1 ∧ out.length + m + s.size ≤ cap3 ∧ cap3 ≤ 9223372036854775807 ∧
      W3.ownsRow w.heap.size 5 1 (.slice A3 (out.length + m + s.size) cap3) (out.length + m + s.size) ((out ++ ys ++ byt s).map (Value.int .u8)) ∧ Below w.heap.size w W3 := by
  have hsz0 := hb.size
  have hb1 : Below w.heap.size w (W.alloc o1) := hb.alloc hsz0 _
  have hbw : Below W.heap.size W (W.alloc o1) := (Below.refl _ _).alloc (Nat.le_refl _) _
  obtain ⟨v2, W2, hrun2, ho2, hg2, hv2⟩ := run_append_bytes (W.alloc o1) w.heap.size v out.length out (own_alloc hown o1) (by simp; omega) A m c ys hm (hr.below hbw) (by omega)
  have hb2 := hb1.grown hg2 (by simp; omega) (own_base hown)
  have hs2 := hg2.size
  simp at hs2
  obtain ⟨v3, W3, hrun3, ho3, hg3⟩ := run_append_text W2 w.heap.size v2 (out.length + m) (out ++ ys) ho2 (by omega) s (by omega)
  obtain ⟨A3, cap3, rfl, h1, h2, h3⟩ := own_form ho3
  have hat1 : W2.heap[W.heap.size]? = some o1 := by
    have hne : some W.heap.size ≠ v.ownBlock := by
      intro h
      have := own_lt hown _ h.symm
      omega
    rw [hg2.block W.heap.size (by simp) hne]
    exact heap_alloc_new W o1
  have hne2 : some W.heap.size ≠ v2.ownBlock := by
    intro h
    rcases hv2 with h' | h'
    · have := own_lt hown _ (h'.symm.trans h.symm); omega
    · rw [h'] at h; simp at h
  refine ⟨v2, W2, A3, cap3, W3, hrun2, hrun3, hat1, ?_, h1, h2, ho3, hb2.grown hg3 (by omega) (own_base ho2)⟩
  rw [hg3.block W.heap.size (by omega) hne2, hat1]
theorem run_make_room (base : Nat) (n : Nat) (h : n ≤ 70000) (w : World) (hb : base ≤ w.heap.size) :
    ∃ W, (Instr.makeSlice 23 (.int .i64 0) (.int .i64 (n : Int))).run Try.prog w = .ok (.slice (some ⟨w.heap.size, 0, none⟩) 0 n) W ∧ W.ownsRow base 5 1 (.slice (some ⟨w.heap.size, 0, none⟩) 0 n) 0 [] ∧ w.grownBy W none := by
  obtain ⟨i, hi, hz, h1, h2⟩ := info_parts byte_info
  exact run_make_own (P := Try.prog) w base 23 5 i _ 1 Try.underlying23 hi hz h1 .i64 .i64 n (by rw [h2]; omega) (by unfold maxLen; omega) hb

set_option maxHeartbeats 2000000 in
theorem do_bad (A : Option Addr) (n c : Nat) (zs : List Int) (B : Option Addr) (m d : Nat) (l : List Sp) (w : World) (hl : zs.length = n) (hn : n ≤ 1000000000) (hm : l.length = m) (hmd : m ≤ d) (hd : d ≤ 9223372036854775807) (h64 : All64 l) (hr : RdS w B l)
    (hv : validF n 0 l = false) :
    Calls Try.prog 10 #[.slice A n c, .slice B m d] w fun e w' => e = .returned (.tuple #[.slice none 0 0, .int .i64 11]) ∧ Below w.heap.size w w' := by
  have HR := Lib.hid hr
  have H64 := Lib.hid h64
  have HV := Lib.hid hv
  have HM := Lib.hid hm
  clear hr h64 hv hm hl
  go_enter Try.func10, Try.ntmps10
  go_wp2_with fail
  refine (valid_any B m d l n w HM.out hmd hd H64.out HR.out (by omega)).mono ?_
  rw [HV.out]
  rintro e w1 ⟨rfl, hb⟩
  have HB := Lib.hid hb
  clear hb
  go_wp2
  go_ret2
  exact ⟨rfl, HB.out⟩

def Texts (l : List Sp) : Prop := ∀ x ∈ l, x.s.size ≤ 1000000000
def DoGood (w : World) (zs : List Int) (l : List Sp) (e : Ending) (w' : World) : Prop :=
  ∃ A n cap, e = .returned (.tuple #[.slice A n cap, .int .i64 0]) ∧ (doF zs 0 l).length = n ∧ n ≤ cap ∧ cap ≤ 9223372036854775807 ∧ (A = none → cap = 0) ∧ RdB w' A (doF zs 0 l) ∧ Below w.heap.size w w'

theorem size_bd {n : Nat} {l : List Sp} (hn : n ≤ 1000000000) (hm : l.length ≤ 1000000) (hv : validF n 0 l = true) (ht : Texts l) (k : Nat) : -1000000000000000 ≤ sumG (l.take k) ∧ sumG (l.take k) ≤ 1000000000000000 := by
  have h := sumG_bd (n := (n : Int)) 1000000000 (by omega) (by omega) (l := l.take k) fun x hx => by
    have h1 := valid_mem hv x (List.mem_of_mem_take hx)
    have h2 := ht x (List.mem_of_mem_take hx)
    exact ⟨h1.1, h1.2.1, h1.2.2, by omega⟩
  have h3 : (l.take k).length ≤ 1000000 := by rw [List.length_take]; omega
  have h4 : ((l.take k).length : Int) * n ≤ 1000000 * 1000000000 := by
    have := Nat.mul_le_mul h3 hn
    rw [← Int.natCast_mul]; omega
  omega

set_option maxHeartbeats 4000000 in
theorem do_good (A : Option Addr) (n c : Nat) (zs : List Int) (B : Option Addr) (m d : Nat) (l : List Sp) (w : World) (hl : zs.length = n) (hnc : n ≤ c) (hc : c ≤ 9223372036854775807) (hA : A = none → c = 0) (hrb : RdB w A zs)
    (hn : n ≤ 1000000000) (hm : l.length = m) (hmd : m ≤ d) (hd : d ≤ 9223372036854775807) (h64 : All64 l) (hr : RdS w B l) (hm6 : m ≤ 1000000) (htx : Texts l) (hv : validF n 0 l = true) (hsz : (n : Int) + sumG l ≤ 65536) :
    Calls Try.prog 10 #[.slice A n c, .slice B m d] w (DoGood w zs l) := by
  subst hm
  have HBD := Lib.hid (size_bd hn hm6 hv htx)
  have hlen := do_len zs l 0 (by omega) (by rw [hl]; exact hv)
  have HR := Lib.hid hr
  have HRB := Lib.hid hrb
  have H64 := Lib.hid h64
  have HV := Lib.hid hv
  have HTX := Lib.hid htx
  have HL := Lib.hid hl
  have HA := Lib.hid hA
  rw [hl] at hlen
  have hlen' : ((doF zs 0 l).length : Int) = n + sumG l := by omega
  have HLEN := Lib.hid hlen'
  have HSZ := Lib.hid hsz
  clear hr h64 hv hl hrb htx hA hlen hlen' hsz
  go_enter Try.func10, Try.ntmps10
  go_wp2_with fail
  refine (valid_any B l.length d l n w rfl hmd hd H64.out HR.out (by omega)).mono ?_
  rw [HV.out]
  rintro e w1 ⟨rfl, hb⟩
  have HB := Lib.hid hb
  clear hb
  go_wp2_with fail
  go_loopw [6, 22] (fun s i W => ∃ (k : Nat) (z : Int), k ≤ l.length ∧ i = .int .i64 (k : Int) ∧ s = .int .i64 z ∧ Hid (z = n + sumG (l.take k) ∧ Below w.heap.size w W)) (fun _ i _ => l.length - (intOf i).toNat)
  case atStart => exact ⟨0, n, by omega, rfl, rfl, by simp [sumG], HB.out⟩
  case round =>
    obtain ⟨k, z, hk, rfl, rfl, HK⟩ := hrel
    obtain ⟨wo, hwo⟩ : ∃ x, x = wr := ⟨_, rfl⟩
    subst hwo
    have hbk := HBD.out k
    have hbk1 := HBD.out (k + 1)
    by_cases hlt : k < l.length
    · obtain ⟨b, off, rfl, hbl, hcell⟩ := (HR.out.below HK.out.2).addr (by omega)
      obtain ⟨c0, c1, c2⟩ := hcell k hlt
      have hvx := valid_mem HV.out _ (spAt_mem hlt)
      have htx := HTX.out _ (spAt_mem hlt)
      have hst := sumG_take hlt
      generalize spAt l k = x at *
      have hgr : grw x = x.s.size - (x.t - x.f) := rfl
      obtain ⟨hv1, hv2, hv3⟩ := hvx
      have hz := HK.out.1
      have hz1 : z + grw x = n + sumG (l.take (k + 1)) := by omega
      have hzb : -2000000000000000 ≤ z ∧ z ≤ 2000000000000000 := by omega
      have hgb : -2000000000000000 ≤ grw x ∧ grw x ≤ 2000000000000000 := by omega
      have HZ1 := Lib.hid hz1
      obtain ⟨hzb1, hzb2⟩ := hzb
      obtain ⟨hgb1, hgb2⟩ := hgb
      have HBW := Lib.hid HK.out.2
      clear hcell hz hz1 hst hgr HK
      go_wp2_with fail
      refine (growth_any x _ hv1 hv2 (by omega) (by omega)).mono ?_
      rintro e w2 ⟨rfl, hb2⟩
      have hb3 := below_step (HBW.out.alloc HBW.out.size _) hb2
      have HB3 := Lib.hid hb3
      clear hb2 hb3
      generalize grw x = g at *
      go_wp2
      go_roundw
      case rel => exact ⟨k + 1, z + g, by omega, by go_num, by go_num, HZ1.out, HB3.out⟩
      case measure => simp [intOf]; omega
    · obtain rfl : k = l.length := by omega
      have hz := HK.out.1
      rw [List.take_length] at hz
      have hsz := HSZ.out
      have hlen := HLEN.out
      have hz2 : z = (((doF zs 0 l).length : Nat) : Int) := by omega
      have hbd : (doF zs 0 l).length ≤ 65536 := by omega
      subst hz2
      have HBW := Lib.hid HK.out.2
      generalize hN : (doF zs 0 l).length = N at *
      have HN := Lib.hid hN
      clear hz hsz hlen hbk hbk1 hN HK HSZ HLEN
      obtain ⟨W1, hmk, hown, hgr⟩ := run_make_room w.heap.size N (by omega) wo HBW.out.size
      have hb1 := HBW.out.grown hgr HBW.out.size (fun k h => by cases h)
      have HX := Lib.hid (And.intro hown hb1)
      clear hown hgr hb1
      go_wp2
      clear hmk
      go_loopw [9, 10, 37] (fun v a i W => ∃ (k q : Nat) (A' : Option Addr) (p cap : Nat) (out : List Int), k ≤ l.length ∧ i = .int .i64 (k : Int) ∧ q ≤ n ∧ a = .int .i64 (q : Int) ∧ v = .slice A' p cap ∧ p ≤ cap ∧ cap ≤ 9223372036854775807 ∧
        Hid (out.length = p ∧ validF n q (l.drop k) = true ∧ out ++ doF zs q (l.drop k) = doF zs 0 l ∧ W.ownsRow w.heap.size 5 1 (.slice A' p cap) p (out.map (Value.int .u8)) ∧ Below w.heap.size w W)) (fun _ _ i _ => l.length - (intOf i).toNat)
      case atStart => exact ⟨0, 0, _, 0, N, [], by omega, rfl, by omega, rfl, rfl, by omega, by omega, rfl, HV.out, rfl, HX.out.1, HX.out.2⟩
      case round =>
        obtain ⟨k, q, A', p, cap, out, hk, rfl, hq, rfl, rfl, hpc, hcap, HK⟩ := hrel
        obtain ⟨hol, hval, hdo, hown, hbel⟩ := HK.out
        clear HK
        subst hol
        by_cases hlt : k < l.length
        · obtain ⟨b, off, rfl, hbl, hcell⟩ := (HR.out.below hbel).addr (by omega)
          obtain ⟨c0, c1, c2⟩ := hcell k hlt
          rw [drop_cons hlt] at hval hdo
          generalize spAt l k = x at *
          rw [valid_cons] at hval
          obtain ⟨hv1, hv2, hv3, hv4⟩ := hval
          rw [doF_cons] at hdo
          obtain ⟨f, hf⟩ : ∃ f : Nat, x.f = (f : Int) := ⟨x.f.toNat, by omega⟩
          obtain ⟨t, ht⟩ : ∃ t : Nat, x.t = (t : Int) := ⟨x.t.toNat, by omega⟩
          obtain ⟨s, hs⟩ : ∃ s, x.s = s := ⟨_, rfl⟩
          rw [hf] at c0 hv1 hv2 hdo
          rw [ht] at c1 hv2 hv3 hv4 hdo
          rw [hs] at c2 hdo
          simp only [Int.toNat_natCast] at hdo
          clear hcell hf ht hs
          have hsum := congrArg List.length hdo
          simp only [List.length_append, List.length_take, List.length_drop, byt_len] at hsum
          obtain ⟨A2, hsl, hA2, hrd2⟩ := slice_lh A n c q f zs HL.out hnc HA.out (by omega) (by omega)
          have hy : ((zs.drop q).take (f - q)).length = f - q := by rw [List.length_take, List.length_drop, HL.out]; omega
          have hzl := HL.out
          have hN := HN.out
          obtain ⟨v2, W2, A3, cap3, W3, hrun2, hrun3, hat2, hat3, hc1, hc2, hown3, hbel3⟩ := do_step w wr _ out hown hbel (.cells #[.int .i64 (f : Int), .int .i64 (t : Int), .string s] 28) A2 (f - q) (c - q) _ hy (hrd2 _ (HRB.out.below hbel)) s (by omega)
          have k2 : W2.cell? ⟨wr.heap.size, 2, none⟩ = some (.string s) := by simp [World.cell?, hat2]
          have k3 : W3.cell? ⟨wr.heap.size, 1, none⟩ = some (.int .i64 (t : Int)) := by simp [World.cell?, hat3]
          have HX3 := Lib.hid (And.intro hown3 (And.intro hbel3 (And.intro hdo (And.intro hv4 hy))))
          have HRUN2 := Lib.hid hrun2
          have HRUN3 := Lib.hid hrun3
          clear hown3 hbel3 hdo hv4 hy hat2 hat3 hrun2 hrun3 hrd2 hA2 hown hbel HX hsum hzl hN
          go_wp2_with (first | (at_builtin; refine wpList_append_known rfl _ (.tmp 46) 23 rfl _ _ _ _ rfl rfl HRUN2.out ?_) | (at_builtin; refine wpList_append_str rfl _ (.tmp 50) 23 9 rfl _ _ _ _ rfl rfl HRUN3.out ?_))
          go_roundw
          case rel =>
            refine ⟨k + 1, t, A3, _, cap3, _, by omega, by go_num, by omega, rfl, rfl, hc1, hc2, ?_, HX3.out.2.2.2.1, ?_, HX3.out.1, HX3.out.2.1⟩
            · rw [List.length_append, List.length_append, HX3.out.2.2.2.2, byt_len]
            · rw [← HX3.out.2.2.1]; simp
          case measure => simp [intOf]; omega
        · obtain rfl : k = l.length := by omega
          rw [List.drop_length] at hval hdo
          rw [doF_nil] at hdo
          obtain ⟨A2, hsl, hA2, hrd2⟩ := slice_l A n c q zs HL.out hnc HA.out hq
          have hsum := congrArg List.length hdo
          simp only [List.length_append, List.length_drop] at hsum
          have hzl := HL.out
          have hN := HN.out
          obtain ⟨v2, W2, hrun2, ho2, hg2, hv2⟩ := run_append_bytes wr w.heap.size _ out.length out hown hbel.size A2 (n - q) (c - q) (zs.drop q) (by rw [List.length_drop]; omega) (hrd2 _ (HRB.out.below hbel)) (by omega)
          obtain ⟨A3, cap3, rfl, h1, h2, h3⟩ := own_form ho2
          rw [hdo] at ho2
          have hbel2 := hbel.grown hg2 hbel.size (own_base hown)
          have hN2 : out.length + (n - q) = N := by omega
          rw [hN2] at ho2 hrun2 h1
          have HX2 := Lib.hid (And.intro ho2 (And.intro hbel2 h3))
          have HRUN2 := Lib.hid hrun2
          clear hown hbel hdo hval hsum hzl hN hrun2 ho2 hg2 hv2 hbel2 hN2 h3 HX
          go_wp2_with (at_builtin; refine wpList_append_known rfl _ (.tmp 58) 23 rfl _ _ _ _ rfl rfl HRUN2.out ?_)
          go_ret2
          exact ⟨A3, N, cap3, rfl, HN.out, h1, h2, HX2.out.2.2, (RdC.own HX2.out.1).toB, HX2.out.2.1⟩
end Go.Proofs.Ytegamojidckmcaa
