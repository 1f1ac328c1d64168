/- The contracts of package plain's functions on bytes: blank, among, joined, documentMark, ends, Starts. -/
import Derived.Test.YtdjpdcjljpmfnaaDoorPlPure
import Derived.Test.YtdjpdcjljpmfnaaDoorBytes
namespace Go.Proofs.YtdjpdcjljpmfnaaDoor
open Go.RowKit
set_option linter.unusedVariables false
set_option maxRecDepth 100000

set_option maxHeartbeats 400000 in
theorem blank_any (c : Int) (w : World) :
    Calls Tryd.prog 64 #[.int .u8 c] w fun e w' => e = .returned (.bool (blk c)) ∧ w = w' := by
  unfold blk
  go_enter Tryd.func64, Tryd.ntmps64
  go_wp2_with (go_at_call 49; refine (space_any _ _).mono ?_; rintro e w' ⟨rfl, rfl⟩)
  all_goals (go_ret; refine ⟨ret_bool (bool_iff ?_), rfl⟩; simp only [spc] at * <;> simp_all)

set_option maxHeartbeats 400000 in
theorem among_any (s : ByteArray) (c : Int) (h0 : 0 ≤ c) (h1 : c < 256) (w : World) (v : Bool) (hv : (byt s).contains c = v) :
    Calls Tryd.prog 65 #[.string s, .int .u8 c] w fun e w' => e = .returned (.bool v) ∧ w = w' := by
  have C := Lib.hid (indexByteS_any s c h0 h1 w)
  rw [hv] at C
  clear hv
  go_enter Tryd.func65, Tryd.ntmps65
  go_wp2_with (go_at_call 70; refine C.out.mono ?_; rintro e w' ⟨x, hx, rfl, rfl⟩; have HX := Lib.hid hx; clear hx)
  go_ret
  exact ⟨ret_bool HX.out, rfl⟩

set_option maxHeartbeats 400000 in
theorem joined_any (A : Option Addr) (n c : Nat) (zs : List Int) (fl : Bool) (w : World) (hl : zs.length = n) (hnc : n ≤ c) (hm : c ≤ 9223372036854775807) (hb : Byte zs) (hr : RdB w A zs) (v : Bool) (hv : joinF zs fl = v) :
    Calls Tryd.prog 67 #[.slice A n c, .bool fl] w fun e w' => e = .returned (.bool v) ∧ w = w' := by
  subst hv
  by_cases h1 : 0 < n
  · obtain ⟨b, off, rfl, hc⟩ := hr.addr (by omega)
    have c1 : w.cell? ⟨b, off, none⟩ = some (.int .u8 (zs.getD 0 0)) := hc 0 (by omega)
    have hbd := hb.at_ (k := 0) (by omega)
    have d : (0 : Int) < (n : Int) := by omega
    have e : joinF zs fl = (!blk (zs.getD 0 0) && !(fl && flo (zs.getD 0 0))) := by unfold joinF; rw [decide_eq_true (by omega)]; rfl
    rw [e]
    generalize zs.getD 0 0 = x at *
    obtain ⟨hb1, hb2⟩ := hbd
    clear e hc hr hl hb
    go_enter Tryd.func67, Tryd.ntmps67
    go_wp2_with (first | (go_at_call 64; refine (blank_any _ _).mono ?_; rintro e w' ⟨rfl, rfl⟩) | (go_at_call 65; refine (among_any _ _ hb1 hb2 _ (flo x) rfl).mono ?_; rintro e w' ⟨rfl, rfl⟩))
    all_goals (go_ret; refine ⟨ret_bool (bool_iff ?_), rfl⟩; simp_all)
  · have d : decide ((0 : Int) < (n : Int)) = false := decide_eq_false (by omega)
    have e : joinF zs fl = false := by unfold joinF; rw [decide_eq_false (by omega)]; rfl
    rw [e]
    clear e hr hl
    go_enter Tryd.func67, Tryd.ntmps67
    go_wp2
    go_ret
    exact ⟨rfl, rfl⟩

theorem doc_eq (zs : List Int) : docF zs = (decide (3 ≤ zs.length) && (zs.take 3 == [45, 45, 45] || zs.take 3 == [46, 46, 46])) := by
  unfold docF
  rcases Nat.lt_or_ge zs.length 3 with h | h
  · rw [decide_eq_false (by omega)]
    have : ∀ l : List Int, l.length = 3 → (zs.take 3 == l) = false := by
      intro l hl
      apply beq_eq_false_iff_ne.2
      intro e
      have := congrArg List.length e
      rw [List.length_take] at this
      omega
    rw [this _ rfl, this _ rfl]; rfl
  · rw [decide_eq_true h]; rfl
set_option maxHeartbeats 1000000 in
theorem docMark_any (A : Option Addr) (n c : Nat) (zs : List Int) (w : World) (hl : zs.length = n) (hnc : n ≤ c) (hm : c ≤ 9223372036854775807) (hb : Byte zs) (hr : RdB w A zs) (v : Bool) (hv : docF zs = v) :
    Calls Tryd.prog 66 #[.slice A n c] w fun e w' => e = .returned (.bool v) ∧ Below w.heap.size w w' := by
  have kc := fun (w : World) (C : Array Value) (n c : Nat) => Lib.run_convert_bytes_const (P := Tryd.prog) w 37 5 C n c Tryd.underlying37 Tryd.underlying5
  have kc2 : ∀ (o : Obj) (C : Array Value) (n c : Nat), (convert 37 37 (.slice (some ⟨w.heap.size + 1, 0, none⟩) n c)).run Tryd.prog ((w.alloc o).alloc (.cells C 5)) = .ok (.slice (some ⟨w.heap.size + 1, 0, none⟩) n c) ((w.alloc o).alloc (.cells C 5 (C.size, C.size + 1))) := fun o C n c => by
    have := kc (w.alloc o) C n c
    rwa [show (w.alloc o).heap.size = w.heap.size + 1 by simp] at this
  have b1 : Byte [45, 45, 45] := by intro z hz; simp at hz; omega
  have b2 : Byte [46, 46, 46] := by intro z hz; simp at hz; omega
  have hv' : ((decide (3 ≤ n) && zs.take 3 == [45, 45, 45]) || (decide (3 ≤ n) && zs.take 3 == [46, 46, 46])) = v := by
    rw [← hv, doc_eq, hl, ← Bool.and_or_distrib_left]
  have HV := Lib.hid hv'
  obtain ⟨v1, hv1⟩ : ∃ v1, (decide (3 ≤ n) && zs.take 3 == [45, 45, 45]) = v1 := ⟨_, rfl⟩
  obtain ⟨v2, hv2⟩ : ∃ v2, (decide (3 ≤ n) && zs.take 3 == [46, 46, 46]) = v2 := ⟨_, rfl⟩
  have p1 := fun W B hr hs => hasPrefix_any A B n c 3 3 zs [45, 45, 45] W hl rfl (by omega) hnc hm hr hs hb b1 v1 hv1
  have p2 := fun W B hr hs => hasPrefix_any A B n c 3 3 zs [46, 46, 46] W hl rfl (by omega) hnc hm hr hs hb b2 v2 hv2
  rw [hv1, hv2] at HV
  have P1 := Lib.hid p1
  have P2 := Lib.hid p2
  have HR := Lib.hid hr
  clear hv hv' hv1 hv2 p1 p2 hr hb b1 b2 hl
  go_enter Tryd.func66, Tryd.ntmps66
  go_wp2_with fail
  refine (P1.out _ _ (HR.out.below ((Below.refl _ _).alloc (Nat.le_refl _) _)) (RdB.new rfl three_at)).mono ?_
  rintro e w' ⟨rfl, rfl⟩
  have hv := HV.out
  clear HV
  cases v1
  · simp at hv; subst hv
    clear kc
    go_wp2_with fail
    refine (P2.out _ _ (HR.out.below (((Below.refl _ _).alloc (Nat.le_refl _) _).alloc (by simp) _)) (RdB.new (by simp) three_at)).mono ?_
    rintro e w' ⟨rfl, rfl⟩
    go_wp2
    go_ret
    exact ⟨rfl, ((Below.refl _ _).alloc (Nat.le_refl _) _).alloc (by simp) _⟩
  · simp at hv; subst hv
    go_wp2
    go_ret
    exact ⟨rfl, (Below.refl _ _).alloc (Nat.le_refl _) _⟩
end Go.Proofs.YtdjpdcjljpmfnaaDoor
