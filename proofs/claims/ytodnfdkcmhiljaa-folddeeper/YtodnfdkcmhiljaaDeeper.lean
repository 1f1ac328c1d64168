/-
  Proved: the law 'scholium/scholiumlaw07.FoldDeeper' returns true for every input, and every argument reads as it did before. No conditions.
-/
import Derived.Test.YtodnfdkcmhiljaaRows
import Derived.Test.YtodnfdkcmhiljaaFdLaw
import Derived.Test.YtodnfdkcmhiljaaKeep
import Derived.WalkKit
import Derived.ProofKit
import Derived.OpenShut
import Derived.ShutString
import Derived.ChangeOld
import Derived.Below
namespace Go.Proofs.Ytodnfdkcmhiljaa.foldDeeper
open Go.ChangeShapes Go.WideShapes Go.ChangeAt Go.RowKit
open Go.ChangeMaps (open_string shut_string)
set_option linter.unusedVariables false

theorem own : ownKnob Try.prog.godebug = none := by kernel_rfl
theorem laidOut : laidOutB Try.prog = true := by kernel_rfl

/-- A slice of integers that came in. -/
def IsRow (k : IntKind) (w : World) (a : Option Addr) (len cap : Nat) (zs : List Int) : Prop :=
  (a = none ∧ len = 0 ∧ cap = 0 ∧ zs = []) ∨
  ∃ x, a = some x ∧ len ≤ cap ∧ cap ≤ maxLen ∧ zs.length = cap ∧ (∀ i, i < zs.length → w.cell? (x.add i) = some (.int k (zs.getD i 0))) ∧ ∀ n ∈ zs, (Lit.int k n).wf = true

def rowsD (k : Nat) : List (List Int) := [97] :: (List.replicate k [] ++ [[32, 98], [99]])
theorem deeper (k : Nat) (h : k < 4) : valueF ⟨true, true, false, 0⟩ (rowsD k) = 97 :: brs k ++ [10, 32, 98, 10, 99] := by
  match k, h with
  | 0, _ => decide +kernel
  | 1, _ => decide +kernel
  | 2, _ => decide +kernel
  | 3, _ => decide +kernel
/-- The rows that the loop has put down. -/
def rowsL (k : Nat) : List ByteArray := ⟨#[97]⟩ :: List.replicate k ⟨#[]⟩
theorem rowsL_more (k : Nat) : rowsL k ++ [⟨#[]⟩] = rowsL (k + 1) := by simp [rowsL, List.replicate_succ']
theorem rowsL_byt (k : Nat) : (rowsL k ++ [(⟨#[32, 98]⟩ : ByteArray), ⟨#[99]⟩]).map byt = rowsD k := by
  simp only [rowsL, rowsD, List.cons_append, List.map_cons, List.map_append, List.map_replicate]; rfl
theorem rowsL_small (k : Nat) : ∀ s ∈ rowsL k ++ [⟨#[32, 98]⟩, ⟨#[99]⟩], s.size ≤ 1000 := by
  intro s hs
  simp only [rowsL, List.mem_append, List.mem_cons, List.mem_replicate, List.not_mem_nil, or_false] at hs
  rcases hs with (rfl | ⟨_, rfl⟩) | rfl | rfl <;> decide

set_option maxHeartbeats 4000000 in
set_option maxRecDepth 100000 in
theorem walk (a0 : Int) (w : World) (w0 : (Lit.int .i64 a0).wf = true) :
    Calls Try.prog 4 #[.int .i64 a0] w fun e w' => e = .returned (.bool true) ∧ Below w.heap.size w w' := by
  have hb0 := bounds_i64 w0
  clear w0
  go_enter Try.func4, Try.ntmps4
  go_wp2_with fail
  refine (within_nat a0 4 w (by omega) (by omega) hb0).mono ?_
  rintro e w' ⟨n, hn, rfl, rfl⟩
  have hV0 : Below w.heap.size w (w.alloc (.cells #[.bool true, .bool true, .bool false, .int .i64 0] 27)) := (Below.refl _ _).alloc (Nat.le_refl _) _
  obtain ⟨V, hV⟩ : ∃ V, w.alloc (.cells #[.bool true, .bool true, .bool false, .int .i64 0] 27) = V := ⟨_, rfl⟩
  have hblk : V.heap[w.heap.size]? = some (.cells #[.bool true, .bool true, .bool false, .int .i64 0] 27) := by rw [← hV]; exact heap_alloc_new w _
  have hvs : V.heap.size = w.heap.size + 1 := by rw [← hV]; simp
  obtain ⟨A1, cap1, W1, hrun1, hown1⟩ := append_txt (OwnT.nil V V (Below.refl _ _)) [⟨#[97]⟩] 1 rfl #[.string ⟨#[97]⟩] rfl (by omega) (w.heap.size + 1) hvs.symm 1 rfl (rowsL 0) rfl
  rw [hV] at hV0
  rw [← hV] at hrun1
  have HV0 := Lib.hid hV0
  have HBLK := Lib.hid hblk
  have HRUN := Lib.hid hrun1
  have HOWN := Lib.hid hown1
  clear hblk hV0 hrun1 hown1 hV
  go_wp2_with (at_builtin; refine wpList_append_known rfl _ (.tmp 11) 22 rfl _ _ _ _ rfl rfl HRUN.out ?_)
  clear HRUN
  go_loopw [4, 5, 6] (fun v s i W => ∃ (j m cap : Nat) (A : Option Addr) (u : ByteArray), j ≤ n ∧ m ≤ j + 1 ∧ v = .slice A m cap ∧ s = .string u ∧ i = .int .i64 (j : Int) ∧ u.size = j + 1 ∧ Hid (byt u = 97 :: brs j ∧ OwnT V W A m cap (rowsL j))) (fun _ _ i _ => n - (intOf i).toNat)
  case atStart => exact ⟨0, 1, cap1, A1, ⟨#[97]⟩, by omega, by omega, rfl, rfl, rfl, rfl, rfl, HOWN.out⟩
  case round =>
    obtain ⟨j, m, cap, A, u, hj, hm, rfl, rfl, rfl, hus, HK⟩ := hrel
    by_cases hlt : j < n
    · have d1 : (j : Int) < (n : Int) := by omega
      obtain ⟨A2, cap2, W2, hrun2, hown2⟩ := append_txt HK.out.2 [⟨#[]⟩] 1 rfl #[.string ⟨#[]⟩] rfl (by omega) wr.heap.size rfl (m + 1) rfl (rowsL (j + 1)) (rowsL_more j).symm
      have HRUN := Lib.hid hrun2
      have HOWN2 := Lib.hid hown2
      clear hrun2 hown2
      go_wp2_with (at_builtin; refine wpList_append_known rfl _ (.tmp 19) 22 rfl _ _ _ _ rfl rfl HRUN.out ?_)
      go_roundw
      case rel =>
        refine ⟨j + 1, m + 1, cap2, A2, u ++ ⟨#[10]⟩, by omega, by omega, rfl, rfl, by go_num, by rw [ByteArray.size_append, hus]; rfl, ?_, HOWN2.out⟩
        rw [byt_append, HK.out.1]
        simp [brs, List.replicate_succ']
        rfl
      case measure => simp [intOf]; omega
    · obtain rfl : j = n := by omega
      obtain ⟨A2, cap2, W2, hrun2, hown2⟩ := append_txt HK.out.2 [⟨#[32, 98]⟩, ⟨#[99]⟩] 2 rfl #[.string ⟨#[32, 98]⟩, .string ⟨#[99]⟩] rfl (by omega) wr.heap.size rfl (m + 2) rfl _ rfl
      have HRUN := Lib.hid hrun2
      have HOWN2 := Lib.hid hown2
      clear hrun2 hown2
      have hblk2 : W2.heap[w.heap.size]? = some (.cells #[.bool true, .bool true, .bool false, .int .i64 0] 27) := (HOWN2.out.2.2.1.block w.heap.size (by omega)).trans HBLK.out
      have c0 : W2.cell? ⟨w.heap.size, 0, none⟩ = some (.bool true) := by simp [World.cell?, hblk2]
      have c1 : W2.cell? ⟨w.heap.size, 1, none⟩ = some (.bool true) := by simp [World.cell?, hblk2]
      have c2 : W2.cell? ⟨w.heap.size, 2, none⟩ = some (.bool false) := by simp [World.cell?, hblk2]
      have c3 : W2.cell? ⟨w.heap.size, 3, none⟩ = some (.int .i64 0) := by simp [World.cell?, hblk2]
      have HC : Hid (∀ X, Below W2.heap.size W2 X → X.cell? ⟨w.heap.size, 0, none⟩ = some (.bool true) ∧ X.cell? ⟨w.heap.size, 1, none⟩ = some (.bool true) ∧ X.cell? ⟨w.heap.size, 2, none⟩ = some (.bool false) ∧ X.cell? ⟨w.heap.size, 3, none⟩ = some (.int .i64 0)) :=
        fun X hX => ⟨cell_keep hX c0, cell_keep hX c1, cell_keep hX c2, cell_keep hX c3⟩
      clear hblk2
      go_wp2_with (at_builtin; refine wpList_append_known rfl _ (.tmp 24) 22 rfl _ _ _ _ rfl rfl HRUN.out ?_)
      refine (value_any A2 (m + 2) cap2 ⟨true, true, false, 0⟩ _ W2 HOWN2.out.1 HOWN2.out.2.2.2.1 HOWN2.out.2.2.2.2.2 (by omega) (rowsL_small j) HOWN2.out.rd).mono ?_
      rintro e W3 ⟨s, hs, rfl, hb3⟩
      obtain rfl : s = u ++ ⟨#[10, 32, 98, 10, 99]⟩ := byt_inj (hs.trans (by rw [rowsL_byt, deeper j hn, byt_append, HK.out.1]; rfl))
      have HB3 := Lib.hid hb3
      clear hs hb3 c0 c1 c2 c3 HRUN
      go_wp2_with fail
      have hb4 : Below W2.heap.size W2 (W3.alloc (.cells #[.string ⟨#[]⟩, .string ⟨#[97]⟩, .string ⟨#[9, 98]⟩] 9)) := HB3.out.alloc HB3.out.size _
      refine (value_any (some ⟨W3.heap.size, 0, none⟩) 3 3 ⟨true, false, false, 0⟩ [⟨#[]⟩, ⟨#[97]⟩, ⟨#[9, 98]⟩] _ rfl (by omega) (fun h => by cases h) (by omega) (by intro s hs; simp at hs; rcases hs with rfl | rfl | rfl <;> decide) (RdC.new rfl (fun k v hv => by simpa using hv))).mono ?_
      rintro e W4 ⟨s, hs, rfl, hb5⟩
      obtain rfl : s = ⟨#[10, 97, 10, 9, 98, 10]⟩ := byt_inj (hs.trans (by decide +kernel))
      have hb6 := below_step hb4 hb5
      obtain ⟨c0, c1, c2, c3⟩ := HC.out W4 hb6
      have HB6 := Lib.hid hb6
      clear hs hb4 hb5 hb6
      go_wp2_with fail
      refine (value_any none 0 0 ⟨true, true, false, 0⟩ [] _ rfl (by omega) (fun h => rfl) (by omega) (by intro s hs; simp at hs) (RdC.nil _ _)).mono ?_
      rintro e W5 ⟨s, hs, rfl, hb7⟩
      obtain rfl : s = ⟨#[]⟩ := byt_inj (hs.trans (by decide +kernel))
      have hb8 := below_step HB6.out hb7
      have HB8 := Lib.hid hb8
      clear hs hb7 hb8 c0 c1 c2 c3
      go_wp2_with fail
      have hb9 : Below W2.heap.size W2 (W5.alloc (.cells #[.string ⟨#[]⟩, .string ⟨#[]⟩] 9)) := HB8.out.alloc HB8.out.size _
      refine (value_any (some ⟨W5.heap.size, 0, none⟩) 2 2 ⟨false, false, true, 0⟩ [⟨#[]⟩, ⟨#[]⟩] _ rfl (by omega) (fun h => by cases h) (by omega) (by intro s hs; simp at hs; subst hs; decide) (RdC.new rfl (fun k v hv => by simpa using hv))).mono ?_
      rintro e W6 ⟨s, hs, rfl, hb10⟩
      obtain rfl : s = ⟨#[10, 10]⟩ := byt_inj (hs.trans (by decide +kernel))
      have HB10 := Lib.hid (below_step hb9 hb10)
      clear hs hb9 hb10
      go_wp2_with fail
      have hb11 : Below W2.heap.size W2 (W6.alloc (.cells #[.string ⟨#[]⟩, .string ⟨#[]⟩] 9)) := HB10.out.alloc HB10.out.size _
      refine (value_any (some ⟨W6.heap.size, 0, none⟩) 2 2 ⟨false, false, false, 0⟩ [⟨#[]⟩, ⟨#[]⟩] _ rfl (by omega) (fun h => by cases h) (by omega) (by intro s hs; simp at hs; subst hs; decide) (RdC.new rfl (fun k v hv => by simpa using hv))).mono ?_
      rintro e W7 ⟨s, hs, rfl, hb12⟩
      obtain rfl : s = ⟨#[]⟩ := byt_inj (hs.trans (by decide +kernel))
      have HB12 := Lib.hid (below_step hb11 hb12)
      clear hs hb11 hb12
      go_wp2_with fail
      refine (wakes_any W7).mono ?_
      rintro e W8 ⟨rfl, hb13⟩
      have HB14 := Lib.hid (below_step (below_step HV0.out (HOWN2.out.2.2.1)) (below_step HB12.out hb13))
      clear hb13
      go_wp2
      go_ret
      exact ⟨rfl, HB14.out⟩


set_option maxRecDepth 100000 in
theorem lifted (os : Os) (started : os.Started) (H : Type) (enc : TypeId × Value → H) :
    ReturnsInHanded {} Try.checked os 4 .any (Rows.foldDeeperSpec.pre6 enc Try.prog Try.f4 Rows.foldDeeperRow.domain false) (Rows.foldDeeperSpec.post enc Try.prog Try.f4 false true false false) := by
  refine returnsInHanded_of_change (C := Try.checked) own started (by kernel_rfl) Try.func4
    (ChangeSpec.witness6 (enc := enc) (C := Try.checked) false ⟨#[], #[.int .i64 0], []⟩ 8 (by kernel_rfl) (by kernel_rfl) (by kernel_rfl) (by kernel_rfl)) ?_
  intro W base args ds gs before hval0 hW hcnd _
  have hval : ∀ (j : Nat) t v, Try.f4.params[j]? = some t → args[j]? = some v → Value.okWide Try.prog W .any base t v := hval0
  have hW' := hW
  obtain ⟨p, q, hA0, hV, rfl, hfz, hnd⟩ := hW
  have hA : DataW.TrodAll enc Try.prog W 0 (fun _ => true) true Try.f4.params.toList args.toList ds p := hA0
  rw [Try.params4] at hA hval
  obtain ⟨v0, vs0, d0, ds0, p0, q0, hargs, rfl, rfl, h0, r0⟩ := trodAll_cons hA
  obtain ⟨rfl, rfl, rfl⟩ := trodAll_nil r0
  obtain rfl : args = #[v0] := by cases args; simp_all
  obtain ⟨rfl, rfl⟩ := trodVars_none hV
  obtain ⟨a0, rfl, rfl, rfl, w0⟩ := open_int Try.underlying3 (hval 0 3 v0 rfl rfl) h0
  clear hA0 hval0
  refine (walk a0 W w0).mono fun e W' ⟨he, bel⟩ => ?_
  subst he
  exact ⟨_, rfl, _, _, _, [], _, [], hW', trodAll_mk1 (shut_bool Try.underlying4 _), (trodAll_cons_mk (shut_int Try.underlying3 w0) trodAll_mk0), rfl, bel.frame _, fun h => by cases h⟩

theorem over : Rows.foldDeeperRow.holds Try.pinned (OpenSpec.ofChange Rows.foldDeeperSpec) :=
  OpenClaim.holds_of_wide 4 Try.f4 rfl rfl rfl rfl rfl rfl rfl ⟨rfl, rfl, rfl, rfl, rfl⟩ rfl rfl rfl rfl rfl (by kernel_rfl) Try.func4 (by kernel_rfl)
    (of_decide_eq_true (by kernel_rfl)) (by unfold Func.isWrapper; first | (rw [if_pos (by decide +kernel)]; kernel_rfl) | (rw [if_neg (by decide +kernel)]; exact ⟨rfl, rfl⟩))
    (fun os started H enc _ => lifted os started H enc)

theorem proved : Rows.FoldDeeperSaid := over
#print axioms proved
end Go.Proofs.Ytodnfdkcmhiljaa.foldDeeper
