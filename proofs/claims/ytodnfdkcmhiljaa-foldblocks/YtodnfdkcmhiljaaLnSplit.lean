/- Split: all lines, in memory of the call's own. -/
import Derived.Test.YtodnfdkcmhiljaaLnFrom
namespace Go.Proofs.Ytodnfdkcmhiljaa
open Go.RowKit
set_option linter.unusedVariables false

def lnC (l : Ln) : List Value := [.int .i64 (l.f : Int), .int .i64 (l.t : Int), .int .i64 (l.n : Int)]
def lnsC (ls : List Ln) : List Value := ls.flatMap lnC
theorem lnsC_len (ls : List Ln) : (lnsC ls).length = ls.length * 3 := by
  induction ls with
  | nil => rfl
  | cons l t ih => simp only [lnsC, List.flatMap_cons, List.length_append, List.length_cons] at ih ⊢; rw [ih]; simp [lnC]; omega
theorem lnsC_snoc (ls : List Ln) (l : Ln) : lnsC (ls ++ [l]) = lnsC ls ++ lnC l := by simp [lnsC]
theorem lnsC_at (ls : List Ln) : ∀ k l, ls[k]? = some l → (lnsC ls)[k * 3]? = some (.int .i64 (l.f : Int)) ∧ (lnsC ls)[k * 3 + 1]? = some (.int .i64 (l.t : Int)) ∧ (lnsC ls)[k * 3 + 2]? = some (.int .i64 (l.n : Int)) := by
  induction ls with
  | nil => intro k l h; simp at h
  | cons x t ih =>
    intro k l h
    have e : lnsC (x :: t) = lnC x ++ lnsC t := by simp [lnsC]
    rw [e]
    cases k with
    | zero => simp at h; subst h; exact ⟨rfl, rfl, rfl⟩
    | succ k =>
      simp at h
      have := ih k l h
      have hl : (lnC x).length = 3 := rfl
      refine ⟨?_, ?_, ?_⟩
      · rw [List.getElem?_append_right (by omega), hl, show (k + 1) * 3 - 3 = k * 3 by omega]; exact this.1
      · rw [List.getElem?_append_right (by omega), hl, show (k + 1) * 3 + 1 - 3 = k * 3 + 1 by omega]; exact this.2.1
      · rw [List.getElem?_append_right (by omega), hl, show (k + 1) * 3 + 2 - 3 = k * 3 + 2 by omega]; exact this.2.2
def RdL (w : World) (A : Option Addr) (ls : List Ln) : Prop := RdC w A (lnsC ls)
theorem RdL.addr {w : World} {A : Option Addr} {ls : List Ln} (h : RdL w A ls) (hl : 0 < ls.length) : ∃ b off, A = some ⟨b, off, none⟩ ∧ b < w.heap.size ∧ ∀ k, k < ls.length →
    w.cell? ⟨b, off + k * 3, none⟩ = some (.int .i64 ((lnAt ls k).f : Int)) ∧ w.cell? ⟨b, off + k * 3 + 1, none⟩ = some (.int .i64 ((lnAt ls k).t : Int)) ∧ w.cell? ⟨b, off + k * 3 + 2, none⟩ = some (.int .i64 ((lnAt ls k).n : Int)) := by
  obtain ⟨b, off, e, hc⟩ := RdC.addr h (by rw [lnsC_len]; omega)
  have h0 := hc _ _ (lnsC_at ls 0 _ (lnAt_some hl)).1
  refine ⟨b, off, e, World.block_lt_of_cell? _ _ h0, fun k hk => ?_⟩
  obtain ⟨h1, h2, h3⟩ := lnsC_at ls k _ (lnAt_some hk)
  exact ⟨hc _ _ h1, hc _ _ h2, hc _ _ h3⟩
theorem RdL.below {w w' : World} {A : Option Addr} {ls : List Ln} (h : RdL w A ls) (hb : Below w.heap.size w w') : RdL w' A ls := RdC.below h hb
theorem RdL.draws {w : World} {A : Option Addr} {ls : List Ln} (h : RdL w A ls) (n : Nat) : RdL (w.drewN n) A ls := h

def NewL (w : World) (ls : List Ln) (e : Ending) (w' : World) : Prop :=
  ∃ A n cap, e = .returned (.slice A n cap) ∧ ls.length = n ∧ n ≤ cap ∧ cap ≤ 9223372036854775807 ∧ RdL w' A ls ∧ Below w.heap.size w w'

theorem line_info : (Try.prog.info? 63).map (fun i => (i.zero, i.size, i.bytes)) = some (some (.agg #[.int .i64 0, .int .i64 0, .int .i64 0]), 3, 24) := by kernel_rfl

/-- A line put behind lines of our own, whichever type they are of. -/
theorem append_ln {t e : TypeId} (ht : Try.prog.underlying t = some (.slice e)) (hinfo : (Try.prog.info? e).map (fun i => (i.zero, i.size, i.bytes)) = some (some (.agg #[.int .i64 0, .int .i64 0, .int .i64 0]), 3, 24))
    (w W : World) (v : Value) (ls : List Ln) (l : Ln) (hown : W.ownsRow w.heap.size e 3 v ls.length (lnsC ls)) (hb : Below w.heap.size w W) (hn : ls.length ≤ 1000000) (o1 : Obj) (x y z : Int) (hx : x = (l.f : Int)) (hy : y = (l.t : Int)) (hz : z = (l.n : Int)) :
    ∃ A cap W', (Builtin.append_ #[t, t] t #[v, .slice (some ⟨W.heap.size + 1, 0, none⟩) 1 1]).run Try.prog ((W.alloc o1).alloc (.cells #[.int .i64 x, .int .i64 y, .int .i64 z] e)) = .ok (.slice A (ls.length + 1) cap) W' ∧
      W'.ownsRow w.heap.size e 3 (.slice A (ls.length + 1) cap) (ls.length + 1) (lnsC (ls ++ [l])) ∧ ls.length + 1 ≤ cap ∧ cap ≤ 9223372036854775807 ∧ Below w.heap.size w W' ∧ W.heap.size + 1 < W'.heap.size ∧
      W'.heap[W.heap.size]? = some o1 := by
  subst hx hy hz
  have hsz := hb.size
  have hb2 : Below w.heap.size w ((W.alloc o1).alloc (.cells #[.int .i64 (l.f : Int), .int .i64 (l.t : Int), .int .i64 (l.n : Int)] e)) := (hb.alloc hsz _).alloc (by simp; omega) _
  obtain ⟨v', W', hrun, ho, hg, hv⟩ := run_append_rows (t := t) (e := e) ht hinfo rfl (by omega) (by omega) ((W.alloc o1).alloc (.cells #[.int .i64 (l.f : Int), .int .i64 (l.t : Int), .int .i64 (l.n : Int)] e)) w.heap.size v ls.length (lnsC ls) (own_alloc (own_alloc hown _) _) (by simp; omega)
    (some ⟨W.heap.size + 1, 0, none⟩) 1 1 (lnC l) rfl (RdC.new (by simp) (fun k v hv => by
      match k with
      | 0 => simpa [lnC] using hv
      | 1 => simpa [lnC] using hv
      | 2 => simpa [lnC] using hv
      | k + 3 => simp [lnC] at hv)) (by intro u hu; simp [lnC] at hu; rcases hu with rfl | rfl | rfl <;> rfl) (by omega)
  obtain ⟨A, cap, rfl, h1, h2, _⟩ := own_form ho
  refine ⟨A, cap, W', hrun, by rw [lnsC_snoc]; exact ho, h1, h2, hb2.grown hg (by simp; omega) (own_base hown), ?_, ?_⟩
  · have := hg.size; simp at this; omega
  · have hne : some W.heap.size ≠ v.ownBlock := by
      intro h
      have := own_lt hown _ h.symm
      omega
    rw [hg.block W.heap.size (by simp; omega) hne, Below.heap_alloc _ _ _ (by simp)]
    exact heap_alloc_new W o1

set_option maxHeartbeats 4000000 in
theorem split_any (A : Option Addr) (n c : Nat) (zs : List Int) (w : World) (hl : zs.length = n) (hnc : n ≤ c) (hm : c ≤ 9223372036854775807) (hb : Byte zs) (hr : RdB w A zs) (hA : A = none → c = 0) (hn : n ≤ 100000) :
    Calls Try.prog 17 #[.slice A n c] w (NewL w (splitF zs)) := by
  have HR := Lib.hid hr
  have HB := Lib.hid hb
  have HL := Lib.hid hl
  have HA := Lib.hid hA
  have hg := bgn_le zs
  rw [hl] at hg
  clear hr hb hl hA
  go_enter Try.func17, Try.ntmps17
  go_wp2_with fail
  refine (begin_any A n c zs w HL.out hnc hm HB.out HR.out _ rfl).mono ?_
  rintro e W0 ⟨rfl, hb0⟩
  have HB0 := Lib.hid hb0
  clear hb0
  go_wp2
  go_loopw [3, 4] (fun v f W => ∃ (a : Nat) (done : List Ln) (A' : Option Addr) (m cap : Nat), a ≤ n ∧ f = .int .i64 (a : Int) ∧ v = .slice A' m cap ∧ m ≤ cap ∧ cap ≤ 9223372036854775807 ∧ Hid (done.length = m ∧ done.length ≤ a ∧ splitF zs = done ++ rest zs a ∧ W.ownsRow w.heap.size 63 3 (.slice A' m cap) m (lnsC done) ∧ Below w.heap.size w W)) (fun _ f _ => n - (intOf f).toNat)
  case atStart => exact ⟨bgn zs, [], none, 0, 0, hg, rfl, rfl, by omega, by omega, rfl, by simp, rfl, own_nil _ _ _ _, HB0.out⟩
  case round =>
    obtain ⟨a, done, A', m, cap, ha, rfl, rfl, hmc, hcm, HK⟩ := hrel
    obtain ⟨hdl, hda, hsp, hown, hbel⟩ := HK.out
    clear HK
    subst hdl
    by_cases hlt : a < n
    · have hrst := rest_cons zs a (by rw [HL.out]; exact hlt)
      have hbd := lnF_bd zs a (by rw [HL.out]; exact ha)
      rw [HL.out] at hbd
      have hln : (lnF zs a).n ≤ n := hbd.2.2.1
      have hln2 : a < (lnF zs a).n := hbd.2.2.2 hlt
      generalize hl' : lnF zs a = l at *
      have HRST := Lib.hid (And.intro hrst hsp)
      have HOWN := Lib.hid hown
      have HBEL := Lib.hid hbel
      clear hrst hsp hown hbel hbd
      have HL' := Lib.hid hl'
      clear hl'
      go_wp2_with fail
      refine (lineFrom_any A n c zs wr a HL.out hnc hm HB.out (HR.out.below HBEL.out) HA.out ha).mono ?_
      rw [HL'.out]
      rintro e W1 ⟨rfl, hb1⟩
      unfold lnV
      have hown1 := own_below HOWN.out hb1
      have hbel1 := HBEL.out.trans (hb1.mono HBEL.out.size)
      obtain ⟨A2, cap2, W2, hrun, hown2, hc1, hc2, hbel2, hsz2, hat⟩ := append_ln Try.underlying34 line_info w W1 _ done l hown1 hbel1 (by omega) (.cells #[.int .i64 (l.f : Int), .int .i64 (l.t : Int), .int .i64 (l.n : Int)] 63) _ _ _ rfl rfl rfl
      have HX := Lib.hid (And.intro hown2 hbel2)
      have hcn : W2.cell? ⟨W1.heap.size, 2, none⟩ = some (.int .i64 (l.n : Int)) := by simp [World.cell?, hat]
      have HRUN := Lib.hid hrun
      clear hown1 hbel1 hrun hown2 hbel2 hat hb1 HOWN HBEL
      go_wp2_with (at_builtin; refine wpList_append_known rfl _ (.tmp 17) 34 rfl _ _ _ _ rfl rfl HRUN.out ?_)
      go_roundw
      case rel =>
        refine ⟨l.n, done ++ [l], A2, done.length + 1, cap2, hln, rfl, by simp, hc1, hc2, by simp, ?_, ?_, HX.out.1, HX.out.2⟩
        · simp; omega
        · rw [HRST.out.2, HRST.out.1]; simp
      case measure => simp [intOf]; omega
    · have he : rest zs a = [] := rest_nil zs a (by rw [HL.out]; omega)
      rw [he, List.append_nil] at hsp
      have HX := Lib.hid (And.intro hsp (And.intro hown hbel))
      clear hsp hown hbel he
      go_wp2
      go_ret
      refine ⟨A', _, cap, rfl, ?_, hmc, hcm, ?_, HX.out.2.2⟩
      · rw [HX.out.1]
      · rw [HX.out.1]; exact RdC.own HX.out.2.1
end Go.Proofs.Ytodnfdkcmhiljaa
