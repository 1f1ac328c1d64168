/-
  Proved: the card of the law 'scholium/scholiumlaw14.CheckForms' (for every input it returns true, and every argument reads as it did before; the package variables that the row lists are tied to the program's text). No conditions.
-/
import Derived.Test.YtnecapmnbaemiaaGreatDoorRows
import Derived.Test.YtnecapmnbaemiaaGreatDoorCards
import Derived.Test.YtnecapmnbaemiaaGreatDoorTie
import Derived.Test.YtnecapmnbaemiaaGreatDoorDoor
import Derived.Test.YtnecapmnbaemiaaGreatDoorMC
import Derived.Test.YtnecapmnbaemiaaGreatDoorMG
import Derived.Test.YtnecapmnbaemiaaGreatDoorMM
import Derived.Test.YtnecapmnbaemiaaGreatDoorMK
import Derived.Test.YtnecapmnbaemiaaGreatDoorMA
import Derived.WalkKit
import Derived.ProofKit
import Derived.OpenShut
import Derived.ShutString
import Derived.ChangeOld
import Derived.Below
import Derived.LaidMore
import Derived.Lay
import Derived.SevenTiedAt
namespace Go.Proofs.YtnecapmnbaemiaaGreatDoor.checkForms
open Go.ChangeShapes Go.WideShapes Go.ChangeAt Go.RowKit
open Go.ChangeMaps (open_string shut_string)
set_option linter.unusedVariables false

theorem own : ownKnob Tryz.prog.godebug = none := by kernel_rfl
theorem laidOut : laidOutB Tryz.prog = true := by kernel_rfl

/-- A slice of integers that came in. -/
def IsRow (k : IntKind) (w : World) (a : Option Addr) (len cap : Nat) (zs : List Int) : Prop :=
  (a = none ∧ len = 0 ∧ cap = 0 ∧ zs = []) ∨
  ∃ x, a = some x ∧ len ≤ cap ∧ cap ≤ maxLen ∧ zs.length = cap ∧ (∀ i, i < zs.length → w.cell? (x.add i) = some (.int k (zs.getD i 0))) ∧ ∀ n ∈ zs, (Lit.int k n).wf = true

set_option maxRecDepth 100000
set_option linter.unusedSimpArgs false in
set_option maxHeartbeats 16000000 in
theorem walk (a0 : Int) (w : World) (w0 : (Lit.int .i64 a0).wf = true) (hSM : Shorts w ∧ MaxL w) :
    Calls Tryz.prog 3 #[.int .i64 a0] w fun e w' => e = .returned (.bool true) ∧ Below w.heap.size w w' := by
  have hb0 := bounds_i64 w0
  have B0 : Hid (Below w.heap.size w w) := Below.refl _ _
  have HS := Lib.hid hSM.1
  have HM := Lib.hid hSM.2
  clear hSM
  go_enter Tryz.func3, Tryz.ntmps3
  go_wp2_with fail
  refine (within_nat a0 8 _ (by omega) (by omega) (by omega)).mono ?_
  rintro e w' ⟨q, hq, rfl, rfl⟩
  go_upto_region 2 with fail
  have hcs := cf_letter ⟨q, hq⟩
  have hgood := cf_good ⟨q, hq⟩
  simp only at hcs hgood
  generalize ((⟨#[97, 98, 99, 100, 101, 102, 103, 104]⟩ : ByteArray).extract q 8).extract 0 1 = cs at *
  obtain ⟨x, hx⟩ : ∃ x : Int, 97 + (q : Int) = x := ⟨_, rfl⟩
  rw [hx] at hcs hgood
  have hcsz : cs.size ≤ 1 := by rw [← byt_len, hcs]; exact Nat.le_refl _
  clear hx
  obtain ⟨g0, h_g0⟩ : ∃ u, (⟨#[91, 38, 120, 32]⟩ : ByteArray) ++ cs = u := ⟨_, rfl⟩
  have b_g0 : byt g0 = [91, 38, 120, 32, x] := by rw [← h_g0, byt_append, hcs]; rfl
  have z_g0 : g0.size ≤ 5 := by rw [← byt_len, b_g0]; exact Nat.le_refl _
  obtain ⟨g1, h_g1⟩ : ∃ u, g0 ++ (⟨#[32, 44, 32, 42, 120, 32, 93]⟩ : ByteArray) = u := ⟨_, rfl⟩
  have b_g1 : byt g1 = [91, 38, 120, 32, x, 32, 44, 32, 42, 120, 32, 93] := by rw [← h_g1, byt_append, b_g0]; rfl
  have z_g1 : g1.size ≤ 12 := by rw [← byt_len, b_g1]; exact Nat.le_refl _
  obtain ⟨g2, h_g2⟩ : ∃ u, (⟨#[91, 42, 120, 32, 44, 32, 38, 120, 32]⟩ : ByteArray) ++ cs = u := ⟨_, rfl⟩
  have b_g2 : byt g2 = [91, 42, 120, 32, 44, 32, 38, 120, 32, x] := by rw [← h_g2, byt_append, hcs]; rfl
  have z_g2 : g2.size ≤ 10 := by rw [← byt_len, b_g2]; exact Nat.le_refl _
  obtain ⟨g3, h_g3⟩ : ∃ u, g2 ++ (⟨#[93]⟩ : ByteArray) = u := ⟨_, rfl⟩
  have b_g3 : byt g3 = [91, 42, 120, 32, 44, 32, 38, 120, 32, x, 93] := by rw [← h_g3, byt_append, b_g2]; rfl
  have z_g3 : g3.size ≤ 11 := by rw [← byt_len, b_g3]; exact Nat.le_refl _
  obtain ⟨g4, h_g4⟩ : ∃ u, (⟨#[123]⟩ : ByteArray) ++ cs = u := ⟨_, rfl⟩
  have b_g4 : byt g4 = [123, x] := by rw [← h_g4, byt_append, hcs]; rfl
  have z_g4 : g4.size ≤ 2 := by rw [← byt_len, b_g4]; exact Nat.le_refl _
  obtain ⟨g5, h_g5⟩ : ∃ u, g4 ++ (⟨#[58, 32, 49, 44, 32]⟩ : ByteArray) = u := ⟨_, rfl⟩
  have b_g5 : byt g5 = [123, x, 58, 32, 49, 44, 32] := by rw [← h_g5, byt_append, b_g4]; rfl
  have z_g5 : g5.size ≤ 7 := by rw [← byt_len, b_g5]; exact Nat.le_refl _
  obtain ⟨g6, h_g6⟩ : ∃ u, g5 ++ cs = u := ⟨_, rfl⟩
  have b_g6 : byt g6 = [123, x, 58, 32, 49, 44, 32, x] := by rw [← h_g6, byt_append, b_g5, hcs]; rfl
  have z_g6 : g6.size ≤ 8 := by rw [← byt_len, b_g6]; exact Nat.le_refl _
  obtain ⟨g7, h_g7⟩ : ∃ u, g6 ++ (⟨#[58, 32, 50, 125]⟩ : ByteArray) = u := ⟨_, rfl⟩
  have b_g7 : byt g7 = [123, x, 58, 32, 49, 44, 32, x, 58, 32, 50, 125] := by rw [← h_g7, byt_append, b_g6]; rfl
  have z_g7 : g7.size ≤ 12 := by rw [← byt_len, b_g7]; exact Nat.le_refl _
  obtain ⟨g8, h_g8⟩ : ∃ u, g4 ++ (⟨#[58, 32, 49, 44, 32, 34]⟩ : ByteArray) = u := ⟨_, rfl⟩
  have b_g8 : byt g8 = [123, x, 58, 32, 49, 44, 32, 34] := by rw [← h_g8, byt_append, b_g4]; rfl
  have z_g8 : g8.size ≤ 8 := by rw [← byt_len, b_g8]; exact Nat.le_refl _
  obtain ⟨g9, h_g9⟩ : ∃ u, g8 ++ cs = u := ⟨_, rfl⟩
  have b_g9 : byt g9 = [123, x, 58, 32, 49, 44, 32, 34, x] := by rw [← h_g9, byt_append, b_g8, hcs]; rfl
  have z_g9 : g9.size ≤ 9 := by rw [← byt_len, b_g9]; exact Nat.le_refl _
  obtain ⟨g10, h_g10⟩ : ∃ u, g9 ++ (⟨#[34, 58, 32, 50, 125]⟩ : ByteArray) = u := ⟨_, rfl⟩
  have b_g10 : byt g10 = [123, x, 58, 32, 49, 44, 32, 34, x, 34, 58, 32, 50, 125] := by rw [← h_g10, byt_append, b_g9]; rfl
  have z_g10 : g10.size ≤ 14 := by rw [← byt_len, b_g10]; exact Nat.le_refl _
  obtain ⟨g11, h_g11⟩ : ∃ u, g4 ++ (⟨#[58, 32, 123]⟩ : ByteArray) = u := ⟨_, rfl⟩
  have b_g11 : byt g11 = [123, x, 58, 32, 123] := by rw [← h_g11, byt_append, b_g4]; rfl
  have z_g11 : g11.size ≤ 5 := by rw [← byt_len, b_g11]; exact Nat.le_refl _
  obtain ⟨g12, h_g12⟩ : ∃ u, g11 ++ cs = u := ⟨_, rfl⟩
  have b_g12 : byt g12 = [123, x, 58, 32, 123, x] := by rw [← h_g12, byt_append, b_g11, hcs]; rfl
  have z_g12 : g12.size ≤ 6 := by rw [← byt_len, b_g12]; exact Nat.le_refl _
  obtain ⟨g13, h_g13⟩ : ∃ u, g12 ++ (⟨#[58, 32, 49, 125, 125]⟩ : ByteArray) = u := ⟨_, rfl⟩
  have b_g13 : byt g13 = [123, x, 58, 32, 123, x, 58, 32, 49, 125, 125] := by rw [← h_g13, byt_append, b_g12]; rfl
  have z_g13 : g13.size ≤ 11 := by rw [← byt_len, b_g13]; exact Nat.le_refl _
  obtain ⟨g14, h_g14⟩ : ∃ u, (⟨#[91, 123]⟩ : ByteArray) ++ cs = u := ⟨_, rfl⟩
  have b_g14 : byt g14 = [91, 123, x] := by rw [← h_g14, byt_append, hcs]; rfl
  have z_g14 : g14.size ≤ 3 := by rw [← byt_len, b_g14]; exact Nat.le_refl _
  obtain ⟨g15, h_g15⟩ : ∃ u, g14 ++ (⟨#[58, 32, 49, 125, 44, 32, 123]⟩ : ByteArray) = u := ⟨_, rfl⟩
  have b_g15 : byt g15 = [91, 123, x, 58, 32, 49, 125, 44, 32, 123] := by rw [← h_g15, byt_append, b_g14]; rfl
  have z_g15 : g15.size ≤ 10 := by rw [← byt_len, b_g15]; exact Nat.le_refl _
  obtain ⟨g16, h_g16⟩ : ∃ u, g15 ++ cs = u := ⟨_, rfl⟩
  have b_g16 : byt g16 = [91, 123, x, 58, 32, 49, 125, 44, 32, 123, x] := by rw [← h_g16, byt_append, b_g15, hcs]; rfl
  have z_g16 : g16.size ≤ 11 := by rw [← byt_len, b_g16]; exact Nat.le_refl _
  obtain ⟨g17, h_g17⟩ : ∃ u, g16 ++ (⟨#[58, 32, 49, 125, 93]⟩ : ByteArray) = u := ⟨_, rfl⟩
  have b_g17 : byt g17 = [91, 123, x, 58, 32, 49, 125, 44, 32, 123, x, 58, 32, 49, 125, 93] := by rw [← h_g17, byt_append, b_g16]; rfl
  have z_g17 : g17.size ≤ 16 := by rw [← byt_len, b_g17]; exact Nat.le_refl _
  obtain ⟨TB, hTB⟩ : ∃ TB : List (ByteArray × Int), TB = [(g1, 0), (g3, 4), (⟨#[42, 120]⟩, 4), (⟨#[38, 120, 32, 91, 42, 120, 32, 93]⟩, 0), (⟨#[91, 38, 120, 32, 49, 32, 44, 32, 38, 120, 32, 50, 93]⟩, 5), (g7, 5), (g10, 5), (⟨#[123, 49, 58, 32, 49, 44, 32, 39, 49, 39, 58, 32, 50, 125]⟩, 0), (⟨#[123, 49, 58, 32, 49, 44, 32, 48, 120, 49, 58, 32, 50, 125]⟩, 0), (g13, 0), (g17, 0), (⟨#[123, 116, 114, 117, 101, 58, 32, 49, 44, 32, 116, 114, 117, 101, 58, 32, 50, 125]⟩, 5)] := ⟨_, rfl⟩
  have hTb : TB.map (fun p => (byt p.1, p.2)) = cfGood x := by
    rw [hTB]
    simp only [List.map_cons, List.map_nil, hcs, b_g1, b_g3, b_g7, b_g10, b_g13, b_g17]
    rfl
  obtain ⟨T, hT⟩ : ∃ T : List (List UInt8 × Int), T = TB.map (fun p => (p.1.data.toList, p.2)) := ⟨_, rfl⟩
  have HTF : Hid (CfTblOk T) := by
    intro s c hm
    rw [hT] at hm
    obtain ⟨p, hp, he⟩ := List.mem_map.1 hm
    have e1 := congrArg Prod.fst he
    have e2 := congrArg Prod.snd he
    simp only at e1 e2
    obtain rfl : p.1 = s := ByteArray.ext (Array.toList_inj.1 e1)
    subst e2
    have hg : (byt p.1, p.2) ∈ cfGood x := by rw [← hTb]; exact List.mem_map_of_mem (f := fun p : ByteArray × Int => (byt p.1, p.2)) hp
    have h1 := cfOk_eq (List.all_eq_true.1 hgood _ hg)
    refine ⟨?_, h1⟩
    rw [← byt_len]
    exact cf_len x _ hg
  have HT0 : Hid ((g1.data.toList, (0 : Int)) ∈ T) := by show _ ∈ _; rw [hT, hTB]; simp
  have HT1 : Hid ((g3.data.toList, (4 : Int)) ∈ T) := by show _ ∈ _; rw [hT, hTB]; simp
  have HT2 : Hid (((⟨#[42, 120]⟩ : ByteArray).data.toList, (4 : Int)) ∈ T) := by show _ ∈ _; rw [hT, hTB]; simp
  have HT3 : Hid (((⟨#[38, 120, 32, 91, 42, 120, 32, 93]⟩ : ByteArray).data.toList, (0 : Int)) ∈ T) := by show _ ∈ _; rw [hT, hTB]; simp
  have HT4 : Hid (((⟨#[91, 38, 120, 32, 49, 32, 44, 32, 38, 120, 32, 50, 93]⟩ : ByteArray).data.toList, (5 : Int)) ∈ T) := by show _ ∈ _; rw [hT, hTB]; simp
  have HT5 : Hid ((g7.data.toList, (5 : Int)) ∈ T) := by show _ ∈ _; rw [hT, hTB]; simp
  have HT6 : Hid ((g10.data.toList, (5 : Int)) ∈ T) := by show _ ∈ _; rw [hT, hTB]; simp
  have HT7 : Hid (((⟨#[123, 49, 58, 32, 49, 44, 32, 39, 49, 39, 58, 32, 50, 125]⟩ : ByteArray).data.toList, (0 : Int)) ∈ T) := by show _ ∈ _; rw [hT, hTB]; simp
  have HT8 : Hid (((⟨#[123, 49, 58, 32, 49, 44, 32, 48, 120, 49, 58, 32, 50, 125]⟩ : ByteArray).data.toList, (0 : Int)) ∈ T) := by show _ ∈ _; rw [hT, hTB]; simp
  have HT9 : Hid ((g13.data.toList, (0 : Int)) ∈ T) := by show _ ∈ _; rw [hT, hTB]; simp
  have HT10 : Hid ((g17.data.toList, (0 : Int)) ∈ T) := by show _ ∈ _; rw [hT, hTB]; simp
  have HT11 : Hid (((⟨#[123, 116, 114, 117, 101, 58, 32, 49, 44, 32, 116, 114, 117, 101, 58, 32, 50, 125]⟩ : ByteArray).data.toList, (5 : Int)) ∈ T) := by show _ ∈ _; rw [hT, hTB]; simp
  clear b_g0 b_g1 b_g2 b_g3 b_g4 b_g5 b_g6 b_g7 b_g8 b_g9 b_g10 b_g11 b_g12 b_g13 b_g14 b_g15 b_g16 b_g17 hcs hgood hTB hTb hT
  refine gen_act fun a0 hA => ?_
  have hsz : a0.tmps.size = 99 := by rw [hA]; rfl
  have e3 : a0.eval (.tmp 3) = .string cs := by rw [hA]; rfl
  refine region_gate (fun _ => True) 44 (by kernel_rfl) ?_
  change wpGate _ _ _ _ _ _ 45 _ _ _
  refine gate_take0 (i := 1) (v := .string cs) rfl (by rfl) (by kernel_rfl) (by kernel_rfl) (by kernel_rfl) (fun _ _ _ h => h) rfl (fun V => move_exec _ (.tmp 3) rfl _ _ (by simp [evp_same, evp_ne, szp, hsz, e3]) V) trivial ?_
  refine gate_take0 (i := 2) (v := .string g0) rfl (by rfl) (by kernel_rfl) (by kernel_rfl) (by kernel_rfl) (fun _ _ _ h => h) rfl (fun V => add_exec _ (.const (.string ⟨#[91, 38, 120, 32]⟩)) (.tmp 17) _ rfl _ ⟨#[91, 38, 120, 32]⟩ cs g0 (rfl) (by simp [evp_same, evp_ne, szp, hsz, e3]) h_g0 (by have : (⟨#[91, 38, 120, 32]⟩ : ByteArray).size = 4 := rfl; omega) V) trivial ?_
  refine gate_take0 (i := 3) (v := .string g1) rfl (by rfl) (by kernel_rfl) (by kernel_rfl) (by kernel_rfl) (fun _ _ _ h => h) rfl (fun V => add_exec _ (.tmp 18) (.const (.string ⟨#[32, 44, 32, 42, 120, 32, 93]⟩)) _ rfl _ g0 ⟨#[32, 44, 32, 42, 120, 32, 93]⟩ g1 (by simp [evp_same, evp_ne, szp, hsz, e3]) (rfl) h_g1 (by have : (⟨#[32, 44, 32, 42, 120, 32, 93]⟩ : ByteArray).size = 7 := rfl; omega) V) trivial ?_
  refine gate_take0 (i := 5) (v := .string cs) rfl (by rfl) (by kernel_rfl) (by kernel_rfl) (by kernel_rfl) (fun _ _ _ h => h) rfl (fun V => move_exec _ (.tmp 3) rfl _ _ (by simp [evp_same, evp_ne, szp, hsz, e3]) V) trivial ?_
  refine gate_take0 (i := 6) (v := .string g2) rfl (by rfl) (by kernel_rfl) (by kernel_rfl) (by kernel_rfl) (fun _ _ _ h => h) rfl (fun V => add_exec _ (.const (.string ⟨#[91, 42, 120, 32, 44, 32, 38, 120, 32]⟩)) (.tmp 20) _ rfl _ ⟨#[91, 42, 120, 32, 44, 32, 38, 120, 32]⟩ cs g2 (rfl) (by simp [evp_same, evp_ne, szp, hsz, e3]) h_g2 (by have : (⟨#[91, 42, 120, 32, 44, 32, 38, 120, 32]⟩ : ByteArray).size = 9 := rfl; omega) V) trivial ?_
  refine gate_take0 (i := 7) (v := .string g3) rfl (by rfl) (by kernel_rfl) (by kernel_rfl) (by kernel_rfl) (fun _ _ _ h => h) rfl (fun V => add_exec _ (.tmp 21) (.const (.string ⟨#[93]⟩)) _ rfl _ g2 ⟨#[93]⟩ g3 (by simp [evp_same, evp_ne, szp, hsz, e3]) (rfl) h_g3 (by have : (⟨#[93]⟩ : ByteArray).size = 1 := rfl; omega) V) trivial ?_
  refine gate_take0 (i := 12) (v := .string cs) rfl (by rfl) (by kernel_rfl) (by kernel_rfl) (by kernel_rfl) (fun _ _ _ h => h) rfl (fun V => move_exec _ (.tmp 3) rfl _ _ (by simp [evp_same, evp_ne, szp, hsz, e3]) V) trivial ?_
  refine gate_take0 (i := 13) (v := .string g4) rfl (by rfl) (by kernel_rfl) (by kernel_rfl) (by kernel_rfl) (fun _ _ _ h => h) rfl (fun V => add_exec _ (.const (.string ⟨#[123]⟩)) (.tmp 23) _ rfl _ ⟨#[123]⟩ cs g4 (rfl) (by simp [evp_same, evp_ne, szp, hsz, e3]) h_g4 (by have : (⟨#[123]⟩ : ByteArray).size = 1 := rfl; omega) V) trivial ?_
  refine gate_take0 (i := 14) (v := .string g5) rfl (by rfl) (by kernel_rfl) (by kernel_rfl) (by kernel_rfl) (fun _ _ _ h => h) rfl (fun V => add_exec _ (.tmp 24) (.const (.string ⟨#[58, 32, 49, 44, 32]⟩)) _ rfl _ g4 ⟨#[58, 32, 49, 44, 32]⟩ g5 (by simp [evp_same, evp_ne, szp, hsz, e3]) (rfl) h_g5 (by have : (⟨#[58, 32, 49, 44, 32]⟩ : ByteArray).size = 5 := rfl; omega) V) trivial ?_
  refine gate_take0 (i := 15) (v := .string cs) rfl (by rfl) (by kernel_rfl) (by kernel_rfl) (by kernel_rfl) (fun _ _ _ h => h) rfl (fun V => move_exec _ (.tmp 3) rfl _ _ (by simp [evp_same, evp_ne, szp, hsz, e3]) V) trivial ?_
  refine gate_take0 (i := 16) (v := .string g6) rfl (by rfl) (by kernel_rfl) (by kernel_rfl) (by kernel_rfl) (fun _ _ _ h => h) rfl (fun V => add_exec _ (.tmp 25) (.tmp 26) _ rfl _ g5 cs g6 (by simp [evp_same, evp_ne, szp, hsz, e3]) (by simp [evp_same, evp_ne, szp, hsz, e3]) h_g6 (by omega) V) trivial ?_
  refine gate_take0 (i := 17) (v := .string g7) rfl (by rfl) (by kernel_rfl) (by kernel_rfl) (by kernel_rfl) (fun _ _ _ h => h) rfl (fun V => add_exec _ (.tmp 27) (.const (.string ⟨#[58, 32, 50, 125]⟩)) _ rfl _ g6 ⟨#[58, 32, 50, 125]⟩ g7 (by simp [evp_same, evp_ne, szp, hsz, e3]) (rfl) h_g7 (by have : (⟨#[58, 32, 50, 125]⟩ : ByteArray).size = 4 := rfl; omega) V) trivial ?_
  refine gate_take0 (i := 19) (v := .string cs) rfl (by rfl) (by kernel_rfl) (by kernel_rfl) (by kernel_rfl) (fun _ _ _ h => h) rfl (fun V => move_exec _ (.tmp 3) rfl _ _ (by simp [evp_same, evp_ne, szp, hsz, e3]) V) trivial ?_
  refine gate_take0 (i := 20) (v := .string g4) rfl (by rfl) (by kernel_rfl) (by kernel_rfl) (by kernel_rfl) (fun _ _ _ h => h) rfl (fun V => add_exec _ (.const (.string ⟨#[123]⟩)) (.tmp 29) _ rfl _ ⟨#[123]⟩ cs g4 (rfl) (by simp [evp_same, evp_ne, szp, hsz, e3]) h_g4 (by have : (⟨#[123]⟩ : ByteArray).size = 1 := rfl; omega) V) trivial ?_
  refine gate_take0 (i := 21) (v := .string g8) rfl (by rfl) (by kernel_rfl) (by kernel_rfl) (by kernel_rfl) (fun _ _ _ h => h) rfl (fun V => add_exec _ (.tmp 30) (.const (.string ⟨#[58, 32, 49, 44, 32, 34]⟩)) _ rfl _ g4 ⟨#[58, 32, 49, 44, 32, 34]⟩ g8 (by simp [evp_same, evp_ne, szp, hsz, e3]) (rfl) h_g8 (by have : (⟨#[58, 32, 49, 44, 32, 34]⟩ : ByteArray).size = 6 := rfl; omega) V) trivial ?_
  refine gate_take0 (i := 22) (v := .string cs) rfl (by rfl) (by kernel_rfl) (by kernel_rfl) (by kernel_rfl) (fun _ _ _ h => h) rfl (fun V => move_exec _ (.tmp 3) rfl _ _ (by simp [evp_same, evp_ne, szp, hsz, e3]) V) trivial ?_
  refine gate_take0 (i := 23) (v := .string g9) rfl (by rfl) (by kernel_rfl) (by kernel_rfl) (by kernel_rfl) (fun _ _ _ h => h) rfl (fun V => add_exec _ (.tmp 31) (.tmp 32) _ rfl _ g8 cs g9 (by simp [evp_same, evp_ne, szp, hsz, e3]) (by simp [evp_same, evp_ne, szp, hsz, e3]) h_g9 (by omega) V) trivial ?_
  refine gate_take0 (i := 24) (v := .string g10) rfl (by rfl) (by kernel_rfl) (by kernel_rfl) (by kernel_rfl) (fun _ _ _ h => h) rfl (fun V => add_exec _ (.tmp 33) (.const (.string ⟨#[34, 58, 32, 50, 125]⟩)) _ rfl _ g9 ⟨#[34, 58, 32, 50, 125]⟩ g10 (by simp [evp_same, evp_ne, szp, hsz, e3]) (rfl) h_g10 (by have : (⟨#[34, 58, 32, 50, 125]⟩ : ByteArray).size = 5 := rfl; omega) V) trivial ?_
  refine gate_take0 (i := 28) (v := .string cs) rfl (by rfl) (by kernel_rfl) (by kernel_rfl) (by kernel_rfl) (fun _ _ _ h => h) rfl (fun V => move_exec _ (.tmp 3) rfl _ _ (by simp [evp_same, evp_ne, szp, hsz, e3]) V) trivial ?_
  refine gate_take0 (i := 29) (v := .string g4) rfl (by rfl) (by kernel_rfl) (by kernel_rfl) (by kernel_rfl) (fun _ _ _ h => h) rfl (fun V => add_exec _ (.const (.string ⟨#[123]⟩)) (.tmp 35) _ rfl _ ⟨#[123]⟩ cs g4 (rfl) (by simp [evp_same, evp_ne, szp, hsz, e3]) h_g4 (by have : (⟨#[123]⟩ : ByteArray).size = 1 := rfl; omega) V) trivial ?_
  refine gate_take0 (i := 30) (v := .string g11) rfl (by rfl) (by kernel_rfl) (by kernel_rfl) (by kernel_rfl) (fun _ _ _ h => h) rfl (fun V => add_exec _ (.tmp 36) (.const (.string ⟨#[58, 32, 123]⟩)) _ rfl _ g4 ⟨#[58, 32, 123]⟩ g11 (by simp [evp_same, evp_ne, szp, hsz, e3]) (rfl) h_g11 (by have : (⟨#[58, 32, 123]⟩ : ByteArray).size = 3 := rfl; omega) V) trivial ?_
  refine gate_take0 (i := 31) (v := .string cs) rfl (by rfl) (by kernel_rfl) (by kernel_rfl) (by kernel_rfl) (fun _ _ _ h => h) rfl (fun V => move_exec _ (.tmp 3) rfl _ _ (by simp [evp_same, evp_ne, szp, hsz, e3]) V) trivial ?_
  refine gate_take0 (i := 32) (v := .string g12) rfl (by rfl) (by kernel_rfl) (by kernel_rfl) (by kernel_rfl) (fun _ _ _ h => h) rfl (fun V => add_exec _ (.tmp 37) (.tmp 38) _ rfl _ g11 cs g12 (by simp [evp_same, evp_ne, szp, hsz, e3]) (by simp [evp_same, evp_ne, szp, hsz, e3]) h_g12 (by omega) V) trivial ?_
  refine gate_take0 (i := 33) (v := .string g13) rfl (by rfl) (by kernel_rfl) (by kernel_rfl) (by kernel_rfl) (fun _ _ _ h => h) rfl (fun V => add_exec _ (.tmp 39) (.const (.string ⟨#[58, 32, 49, 125, 125]⟩)) _ rfl _ g12 ⟨#[58, 32, 49, 125, 125]⟩ g13 (by simp [evp_same, evp_ne, szp, hsz, e3]) (rfl) h_g13 (by have : (⟨#[58, 32, 49, 125, 125]⟩ : ByteArray).size = 5 := rfl; omega) V) trivial ?_
  refine gate_take0 (i := 35) (v := .string cs) rfl (by rfl) (by kernel_rfl) (by kernel_rfl) (by kernel_rfl) (fun _ _ _ h => h) rfl (fun V => move_exec _ (.tmp 3) rfl _ _ (by simp [evp_same, evp_ne, szp, hsz, e3]) V) trivial ?_
  refine gate_take0 (i := 36) (v := .string g14) rfl (by rfl) (by kernel_rfl) (by kernel_rfl) (by kernel_rfl) (fun _ _ _ h => h) rfl (fun V => add_exec _ (.const (.string ⟨#[91, 123]⟩)) (.tmp 41) _ rfl _ ⟨#[91, 123]⟩ cs g14 (rfl) (by simp [evp_same, evp_ne, szp, hsz, e3]) h_g14 (by have : (⟨#[91, 123]⟩ : ByteArray).size = 2 := rfl; omega) V) trivial ?_
  refine gate_take0 (i := 37) (v := .string g15) rfl (by rfl) (by kernel_rfl) (by kernel_rfl) (by kernel_rfl) (fun _ _ _ h => h) rfl (fun V => add_exec _ (.tmp 42) (.const (.string ⟨#[58, 32, 49, 125, 44, 32, 123]⟩)) _ rfl _ g14 ⟨#[58, 32, 49, 125, 44, 32, 123]⟩ g15 (by simp [evp_same, evp_ne, szp, hsz, e3]) (rfl) h_g15 (by have : (⟨#[58, 32, 49, 125, 44, 32, 123]⟩ : ByteArray).size = 7 := rfl; omega) V) trivial ?_
  refine gate_take0 (i := 38) (v := .string cs) rfl (by rfl) (by kernel_rfl) (by kernel_rfl) (by kernel_rfl) (fun _ _ _ h => h) rfl (fun V => move_exec _ (.tmp 3) rfl _ _ (by simp [evp_same, evp_ne, szp, hsz, e3]) V) trivial ?_
  refine gate_take0 (i := 39) (v := .string g16) rfl (by rfl) (by kernel_rfl) (by kernel_rfl) (by kernel_rfl) (fun _ _ _ h => h) rfl (fun V => add_exec _ (.tmp 43) (.tmp 44) _ rfl _ g15 cs g16 (by simp [evp_same, evp_ne, szp, hsz, e3]) (by simp [evp_same, evp_ne, szp, hsz, e3]) h_g16 (by omega) V) trivial ?_
  refine gate_take0 (i := 40) (v := .string g17) rfl (by rfl) (by kernel_rfl) (by kernel_rfl) (by kernel_rfl) (fun _ _ _ h => h) rfl (fun V => add_exec _ (.tmp 45) (.const (.string ⟨#[58, 32, 49, 125, 93]⟩)) _ rfl _ g16 ⟨#[58, 32, 49, 125, 93]⟩ g17 (by simp [evp_same, evp_ne, szp, hsz, e3]) (rfl) h_g17 (by have : (⟨#[58, 32, 49, 125, 93]⟩ : ByteArray).size = 5 := rfl; omega) V) trivial ?_
  refine gate_one (i := 0) (by kernel_rfl) ?_
  refine wpOp_value (v := .map (some w.drew.heap.size)) (w' := w.drew.alloc (.map #[] 0)) rfl rfl (makeMap_exec _ _ rfl _ _) ⟨fun _ => trivial, ?_⟩
  obtain ⟨B, hB⟩ : ∃ B, w.drew.heap.size = B := ⟨_, rfl⟩
  have hBw : w.heap.size ≤ B := by rw [← hB]; exact B0.out.size
  have HI : InvE w B T 12 (w.drew.alloc (.map #[] 0)) := ⟨0, .map [], by omega, by rw [← hB]; exact ownSE_new _, allInE_nil _, B0.out.drew.alloc B0.out.drew.size _⟩
  rw [hB]
  generalize w.drew.alloc (.map #[] 0) = W1 at *
  refine gate_gen fun a1' hA0 => ?_
  have hA1 : a1' = (((((((((((((((((((((((((((((((a0.put (some 17) (.string cs)).put (some 18) (.string g0)).put (some 19) (.string g1)).put (some 20) (.string cs)).put (some 21) (.string g2)).put (some 22) (.string g3)).put (some 23) (.string cs)).put (some 24) (.string g4)).put (some 25) (.string g5)).put (some 26) (.string cs)).put (some 27) (.string g6)).put (some 28) (.string g7)).put (some 29) (.string cs)).put (some 30) (.string g4)).put (some 31) (.string g8)).put (some 32) (.string cs)).put (some 33) (.string g9)).put (some 34) (.string g10)).put (some 35) (.string cs)).put (some 36) (.string g4)).put (some 37) (.string g11)).put (some 38) (.string cs)).put (some 39) (.string g12)).put (some 40) (.string g13)).put (some 41) (.string cs)).put (some 42) (.string g14)).put (some 43) (.string g15)).put (some 44) (.string cs)).put (some 45) (.string g16)).put (some 46) (.string g17)).put (some 16) (.map (some B))) := hA0
  clear hA0
  have hsz1 : a1'.tmps.size = 99 := by rw [hA1]; simp [szp, hsz]
  have e16 : a1'.eval (.tmp 16) = .map (some B) := by rw [hA1]; simp [evp_same, evp_ne, szp, hsz]
  have e19 : a1'.eval (.tmp 19) = .string g1 := by rw [hA1]; simp [evp_same, evp_ne, szp, hsz]
  have e22 : a1'.eval (.tmp 22) = .string g3 := by rw [hA1]; simp [evp_same, evp_ne, szp, hsz]
  have e28 : a1'.eval (.tmp 28) = .string g7 := by rw [hA1]; simp [evp_same, evp_ne, szp, hsz]
  have e34 : a1'.eval (.tmp 34) = .string g10 := by rw [hA1]; simp [evp_same, evp_ne, szp, hsz]
  have e40 : a1'.eval (.tmp 40) = .string g13 := by rw [hA1]; simp [evp_same, evp_ne, szp, hsz]
  have e46 : a1'.eval (.tmp 46) = .string g17 := by rw [hA1]; simp [evp_same, evp_ne, szp, hsz]
  change wpGate _ _ _ _ _ _ (12 + 2) _ _ _
  refine gate_any (a := a1') (I := [4, 8, 9, 10, 11, 18, 25, 26, 27, 34, 41, 42]) (Lf := #[true, true, true, true, true, true, true, true, true, true, true, true, true, true, true, true, true, true, true, true, true, true, true, true, true, true, true, true, true, true, true, true, true, true, true, true, true, true, true, true, true, true, true, false, false]) (r := 2) (by kernel_rfl) (InvE w B T) ?_ ?_ 12 [4, 8, 9, 10, 11, 18, 25, 26, 27, 34, 41, 42] _ W1 (by decide) (fun i hi => hi) rfl (by kernel_rfl) (rel_of (by kernel_rfl)) HI
  · intro i hi k V hV
    simp only [List.mem_cons, List.not_mem_nil, or_false] at hi
    rcases hi with rfl | rfl | rfl | rfl | rfl | rfl | rfl | rfl | rfl | rfl | rfl | rfl
    · obtain ⟨V', hr, hI⟩ := invE_put hBw hV g1 (by omega) 0 (by decide) HT0.out
      exact wpOp_skip rfl rfl (insert_exec _ (.tmp 16) (.tmp 19) (.const (.int .i64 0)) _ rfl a1' _ _ _ e16 e19 rfl V V' hr) ⟨rfl, hI⟩
    · obtain ⟨V', hr, hI⟩ := invE_put hBw hV g3 (by omega) 4 (by decide) HT1.out
      exact wpOp_skip rfl rfl (insert_exec _ (.tmp 16) (.tmp 22) (.const (.int .i64 4)) _ rfl a1' _ _ _ e16 e22 rfl V V' hr) ⟨rfl, hI⟩
    · obtain ⟨V', hr, hI⟩ := invE_put hBw hV ⟨#[42, 120]⟩ (by decide) 4 (by decide) HT2.out
      exact wpOp_skip rfl rfl (insert_exec _ (.tmp 16) (.const (.string ⟨#[42, 120]⟩)) (.const (.int .i64 4)) _ rfl a1' _ _ _ e16 rfl rfl V V' hr) ⟨rfl, hI⟩
    · obtain ⟨V', hr, hI⟩ := invE_put hBw hV ⟨#[38, 120, 32, 91, 42, 120, 32, 93]⟩ (by decide) 0 (by decide) HT3.out
      exact wpOp_skip rfl rfl (insert_exec _ (.tmp 16) (.const (.string ⟨#[38, 120, 32, 91, 42, 120, 32, 93]⟩)) (.const (.int .i64 0)) _ rfl a1' _ _ _ e16 rfl rfl V V' hr) ⟨rfl, hI⟩
    · obtain ⟨V', hr, hI⟩ := invE_put hBw hV ⟨#[91, 38, 120, 32, 49, 32, 44, 32, 38, 120, 32, 50, 93]⟩ (by decide) 5 (by decide) HT4.out
      exact wpOp_skip rfl rfl (insert_exec _ (.tmp 16) (.const (.string ⟨#[91, 38, 120, 32, 49, 32, 44, 32, 38, 120, 32, 50, 93]⟩)) (.const (.int .i64 5)) _ rfl a1' _ _ _ e16 rfl rfl V V' hr) ⟨rfl, hI⟩
    · obtain ⟨V', hr, hI⟩ := invE_put hBw hV g7 (by omega) 5 (by decide) HT5.out
      exact wpOp_skip rfl rfl (insert_exec _ (.tmp 16) (.tmp 28) (.const (.int .i64 5)) _ rfl a1' _ _ _ e16 e28 rfl V V' hr) ⟨rfl, hI⟩
    · obtain ⟨V', hr, hI⟩ := invE_put hBw hV g10 (by omega) 5 (by decide) HT6.out
      exact wpOp_skip rfl rfl (insert_exec _ (.tmp 16) (.tmp 34) (.const (.int .i64 5)) _ rfl a1' _ _ _ e16 e34 rfl V V' hr) ⟨rfl, hI⟩
    · obtain ⟨V', hr, hI⟩ := invE_put hBw hV ⟨#[123, 49, 58, 32, 49, 44, 32, 39, 49, 39, 58, 32, 50, 125]⟩ (by decide) 0 (by decide) HT7.out
      exact wpOp_skip rfl rfl (insert_exec _ (.tmp 16) (.const (.string ⟨#[123, 49, 58, 32, 49, 44, 32, 39, 49, 39, 58, 32, 50, 125]⟩)) (.const (.int .i64 0)) _ rfl a1' _ _ _ e16 rfl rfl V V' hr) ⟨rfl, hI⟩
    · obtain ⟨V', hr, hI⟩ := invE_put hBw hV ⟨#[123, 49, 58, 32, 49, 44, 32, 48, 120, 49, 58, 32, 50, 125]⟩ (by decide) 0 (by decide) HT8.out
      exact wpOp_skip rfl rfl (insert_exec _ (.tmp 16) (.const (.string ⟨#[123, 49, 58, 32, 49, 44, 32, 48, 120, 49, 58, 32, 50, 125]⟩)) (.const (.int .i64 0)) _ rfl a1' _ _ _ e16 rfl rfl V V' hr) ⟨rfl, hI⟩
    · obtain ⟨V', hr, hI⟩ := invE_put hBw hV g13 (by omega) 0 (by decide) HT9.out
      exact wpOp_skip rfl rfl (insert_exec _ (.tmp 16) (.tmp 40) (.const (.int .i64 0)) _ rfl a1' _ _ _ e16 e40 rfl V V' hr) ⟨rfl, hI⟩
    · obtain ⟨V', hr, hI⟩ := invE_put hBw hV g17 (by omega) 0 (by decide) HT10.out
      exact wpOp_skip rfl rfl (insert_exec _ (.tmp 16) (.tmp 46) (.const (.int .i64 0)) _ rfl a1' _ _ _ e16 e46 rfl V V' hr) ⟨rfl, hI⟩
    · obtain ⟨V', hr, hI⟩ := invE_put hBw hV ⟨#[123, 116, 114, 117, 101, 58, 32, 49, 44, 32, 116, 114, 117, 101, 58, 32, 50, 125]⟩ (by decide) 5 (by decide) HT11.out
      exact wpOp_skip rfl rfl (insert_exec _ (.tmp 16) (.const (.string ⟨#[123, 116, 114, 117, 101, 58, 32, 49, 44, 32, 116, 114, 117, 101, 58, 32, 50, 125]⟩)) (.const (.int .i64 5)) _ rfl a1' _ _ _ e16 rfl rfl V V' hr) ⟨rfl, hI⟩
  · intro V hV
    obtain ⟨n, D, hn, ho, ha, hb⟩ := hV
    obtain ⟨V', hr, hrg, hb'⟩ := run_rangeSE ho
    refine gate_one (i := 43) (by kernel_rfl) ?_
    refine wpOp_value (v := .map (some B)) (w' := V) rfl rfl (move_exec _ (.tmp 16) rfl _ _ e16 V) ⟨fun _ => trivial, ?_⟩
    refine gate_one (i := 44) (by kernel_rfl) ?_
    refine wpOp_value (v := .pointer (some ⟨V.heap.size, 0, none⟩)) (w' := V') rfl rfl (range_exec _ (.tmp 47) _ rfl _ (.map (some B)) _ (by simp [evp_same, evp_ne, szp, hsz1]) V V' hr) ⟨fun _ => trivial, ?_⟩
    refine gate_gen fun a2 hA0 => ?_
    have hA2 : a2 = ((a1'.put (some 47) (.map (some B))).put (some 48) (.pointer (some ⟨V.heap.size, 0, none⟩))) := hA0
    clear hA0
    refine gate_done (by kernel_rfl) ?_ _
    obtain ⟨g, hg⟩ : ∃ g, V.heap.size = g := ⟨_, rfl⟩
    have hgw : w.heap.size ≤ g := by rw [← hg]; exact hb.size
    rw [hg] at hrg hA2
    have HRG := Lib.hid hrg
    have HB0 := Lib.hid (below_step hb hb')
    have HAL := Lib.hid ha
    clear hr hrg hb hb' ho ha hg
    subst hA2 hA1 hA
    clear e3 hsz hsz1 e16 e19 e22 e28 e34 e40 e46 HI
    clear h_g0 z_g0 h_g1 z_g1 h_g2 z_g2 h_g3 z_g3 h_g4 z_g4 h_g5 z_g5 h_g6 z_g6 h_g7 z_g7 h_g8 z_g8 h_g9 z_g9 h_g10 z_g10 h_g11 z_g11 h_g12 z_g12 h_g13 z_g13 h_g14 z_g14 h_g15 z_g15 h_g16 z_g16 h_g17 z_g17 HT0 HT1 HT2 HT3 HT4 HT5 HT6 HT7 HT8 HT9 HT10 HT11
    go_wp2_with fail
    simp only [Act.put, List.setIfInBounds_toArray, List.set_cons_zero, List.set_cons_succ]
    go_loopw [2] (fun r W => r = .bool false ∧ ∃ cnt : Nat, Hid (RngSE W B g n D cnt ∧ Below w.heap.size w W)) (fun _ W => W.rangeLeft B g)
    case atStart => exact ⟨rfl, _, HRG.out, HB0.out⟩
    case round =>
      obtain ⟨rfl, cnt, HK⟩ := hrel
      obtain ⟨W, hW⟩ : ∃ x, x = wr := ⟨_, rfl⟩
      subst hW
      have HRK := Lib.hid HK.out.1
      have HBK := Lib.hid HK.out.2
      clear HK
      go_wp2_with (at_next; refine cf_next rfl (.tmp 48) rfl B g n D cnt T rfl HRK HAL HTF ?_ (fun x' c W3 l HF hxs hen => ?_))
      · clear HRK HAL HTF HRG HB0
        go_wp2_with fail
        refine (cwakes_at _).mono ?_
        rintro e w9 ⟨rfl, hb9⟩
        have H9 := Lib.hid (below_step HBK.out hb9)
        clear hb9
        go_wp2_with fail
        go_ret
        exact ⟨rfl, H9.out⟩
      · obtain ⟨hok, hcb, ⟨cnt', hrg', hlt'⟩, hgr⟩ := HF.out
        obtain ⟨ht, hsm, h0, h100, hck, htest, hcmp⟩ := cfB_of hcb
        have HB3 : Hid (Below w.heap.size w W3) := HBK.out.grown hgr HBK.out.size (fun b hb => by injection hb with hb; omega)
        have HRG3 := Lib.hid hrg'
        have HLT := Lib.hid (And.intro hlt' HRK.out.left)
        have HP := Lib.hid (parse_at (Below.refl _ _) (HS.out.below HB3.out) (HM.out.below HB3.out) x' (by omega) true _ hok)
        have HQ := Lib.hid (And.intro ht (And.intro hsm (And.intro hck (And.intro htest hcmp))))
        clear hrg' hlt' hgr HF hok ht hsm hck htest hcmp hcb
        go_wp2_with fail
        refine HP.out.mono ?_
        rintro e W5 ⟨vv, rfl, hL, hb5⟩
        clear HP hen
        have HB5 := Lib.hid hb5
        obtain ⟨B9, P, hN, hlst⟩ := hL
        obtain ⟨A5, c5, rfl, _⟩ := own_form hN.row
        obtain ⟨k5, hk5⟩ : ∃ z, P.length = z := ⟨_, rfl⟩
        rw [hk5] at hN
        have hgl := hN.gl hk5
        rw [hlst] at hgl
        rw [hk5]
        have hk6 : k5 ≤ 100 := by rw [← hk5, ← lst_len, hlst]; exact h100
        have HGL := Lib.hid hgl
        obtain ⟨m, hm⟩ : ∃ z, l.map gn = z := ⟨_, rfl⟩
        rw [hm] at HGL HQ
        clear hN hlst hgl hb5 hk5 hm h0 h100
        go_wp2_with fail
        refine (ccheck_at HGL.out HQ.out.1 HQ.out.2.1 (by omega)).mono ?_
        rintro e W6 ⟨rfl, hb6⟩
        have HB6 := Lib.hid (below_step HB5.out hb6)
        obtain ⟨f, hf⟩ : ∃ z, (ckF m).1 = z := ⟨_, rfl⟩
        obtain ⟨d, hd⟩ : ∃ z, (ckF m).2 = z := ⟨_, rfl⟩
        have hfc := HQ.out.2.2.1
        have htest := HQ.out.2.2.2.1
        rw [hf] at hfc
        rw [hd] at htest
        subst hfc
        rw [hf, hd]
        have HFF := Lib.hid (And.intro hf (HGL.out.below hb6))
        have HCM := Lib.hid HQ.out.2.2.2.2
        clear hf hd hb6
        go_wp2_with fail
        refine (compose_at HFF.out.2 HQ.out.1 HQ.out.2.1 (by omega)).mono ?_
        intro e W7 h7
        have hff : (f != f) = false := bne_self_eq_false f
        have rel : ∀ W8 : World, Below W6.heap.size W6 W8 → ∃ cnt' : Nat, RngSE W8 B g n D cnt' ∧ Below w.heap.size w W8 ∧ W8.rangeLeft B g < W.rangeLeft B g := fun W8 h8 =>
          ⟨cnt', HRG3.out.below (below_step HB6.out h8), below_step HB3.out (below_step HB6.out h8), by rw [(HRG3.out.below (below_step HB6.out h8)).left, HLT.out.2]; exact HLT.out.1⟩
        have HREL := Lib.hid rel
        clear rel
        by_cases hf0 : f = 0
        · subst hf0
          have h7' : ∃ A n cap, e = .returned (.tuple #[.slice A n cap, .int .i64 0]) ∧ TL W7 A n cap (cmpL (nbrF m) m) ∧ Below W6.heap.size W6 W7 := by
            rcases h7 with ⟨q, _⟩ | ⟨_, q⟩
            · exact absurd HFF.out.1 q
            · exact q
          obtain ⟨A7, n7, c7, rfl, htl, hb7⟩ := h7'
          have hn7 : 0 < n7 := by rw [← htl.len]; exact HCM.out rfl
          have dn7 : (0 : Int) < (n7 : Int) := by omega
          have HB7 := Lib.hid hb7
          have ht0 : (((0 : Int) == 0) != (d == 0)) = false := by
            rcases htest with h | h
            · exact h
            · cases h
          have hd0 : (d == 0) = true := by
            cases hx : (d == 0) with
            | true => rfl
            | false => rw [hx] at ht0; cases ht0
          clear h7 htl hb7 htest ht0
          go_wp2_with fail
          first
          | exact ⟨⟨rfl, (HREL.out _ HB7.out).choose, (HREL.out _ HB7.out).choose_spec.1, (HREL.out _ HB7.out).choose_spec.2.1⟩, (HREL.out _ HB7.out).choose_spec.2.2⟩
          | (go_roundw
             case rel => exact ⟨rfl, (HREL.out _ HB7.out).choose, (HREL.out _ HB7.out).choose_spec.1, (HREL.out _ HB7.out).choose_spec.2.1⟩
             case measure => exact (HREL.out _ HB7.out).choose_spec.2.2)
        · have h7' : e = .returned (.tuple #[.slice none 0 0, .int .i64 f]) ∧ Below W6.heap.size W6 W7 := by
            rcases h7 with ⟨_, q, q2⟩ | ⟨q, _⟩
            · rw [HFF.out.1] at q; exact ⟨q, q2⟩
            · exact absurd (HFF.out.1 ▸ q) hf0
          obtain ⟨rfl, hb7⟩ := h7'
          have HB7 := Lib.hid hb7
          have e0 : (f == 0) = false := beq_eq_false_iff_ne.2 hf0
          clear h7 hb7
          by_cases h4 : f = 4
          · subst h4
            cases hx : (d == 0) with
            | true =>
              go_wp2_with fail
              first
              | exact ⟨⟨rfl, (HREL.out _ HB7.out).choose, (HREL.out _ HB7.out).choose_spec.1, (HREL.out _ HB7.out).choose_spec.2.1⟩, (HREL.out _ HB7.out).choose_spec.2.2⟩
              | (go_roundw
                 case rel => exact ⟨rfl, (HREL.out _ HB7.out).choose, (HREL.out _ HB7.out).choose_spec.1, (HREL.out _ HB7.out).choose_spec.2.1⟩
                 case measure => exact (HREL.out _ HB7.out).choose_spec.2.2)
            | false =>
              go_wp2_with fail
              first
              | exact ⟨⟨rfl, (HREL.out _ HB7.out).choose, (HREL.out _ HB7.out).choose_spec.1, (HREL.out _ HB7.out).choose_spec.2.1⟩, (HREL.out _ HB7.out).choose_spec.2.2⟩
              | (go_roundw
                 case rel => exact ⟨rfl, (HREL.out _ HB7.out).choose, (HREL.out _ HB7.out).choose_spec.1, (HREL.out _ HB7.out).choose_spec.2.1⟩
                 case measure => exact (HREL.out _ HB7.out).choose_spec.2.2)
          · have e4 : (f != 4) = true := bne_iff_ne.2 h4
            have hd0 : (d == 0) = false := by
              rcases htest with h | h
              · rw [e0] at h
                cases hx : (d == 0) with
                | true => rw [hx] at h; cases h
                | false => rfl
              · exact absurd h h4
            clear htest
            go_wp2_with fail
            first
            | exact ⟨⟨rfl, (HREL.out _ HB7.out).choose, (HREL.out _ HB7.out).choose_spec.1, (HREL.out _ HB7.out).choose_spec.2.1⟩, (HREL.out _ HB7.out).choose_spec.2.2⟩
            | (go_roundw
               case rel => exact ⟨rfl, (HREL.out _ HB7.out).choose, (HREL.out _ HB7.out).choose_spec.1, (HREL.out _ HB7.out).choose_spec.2.1⟩
               case measure => exact (HREL.out _ HB7.out).choose_spec.2.2)


set_option maxRecDepth 100000 in
theorem lifted (os : Os) (started : os.Started) (H : Type) (enc : TypeId × Value → H) :
    ReturnsInHanded {} Tryz.checked os 3 .any (fun w args => (Rows.checkFormsSpec.pre enc Tryz.prog Tryz.f3 Rows.checkFormsRow.domain false w args ∧ laidMetH Tryz.prog Rows.checkFormsRow.laid w) ∧ sizedMet enc Tryz.prog Tryz.f3 (OpenSpec.ofChange Rows.checkFormsSpec) false w args)
      (Rows.checkFormsSpec.post enc Tryz.prog Tryz.f3 false true false false) := by
  refine returns_listed (C := Tryz.checked) (X := fun w _ => laidMetH Tryz.prog Rows.checkFormsRow.laid w) (fun _ _ _ hh h => h.of_heap hh) own started (by kernel_rfl) Tryz.func3
    (ChangeSpec.witness_shaped (enc := enc) (C := Tryz.checked) (os := os) (X := fun w _ => laidMetH Tryz.prog Rows.checkFormsRow.laid w) false (World.laidAll Tryz.prog os Rows.checkFormsRow.laid) #[.int .i64 0] 8 (World.laidAll_os _ _ _)
      (World.shaped_of_ZipB (by kernel_rfl) (by kernel_rfl)) (by kernel_rfl) (by kernel_rfl) (by kernel_rfl)
      (by rw [MakeChecks.laidMetH_plain _ _ _ (by kernel_rfl)]; exact laidMet_laidAll _ (by kernel_rfl) (by kernel_rfl))) ?_
  intro W base args ds gs before hval0 hW hX hsh
  have hval : ∀ (j : Nat) t v, Tryz.f3.params[j]? = some t → args[j]? = some v → Value.okWide Tryz.prog W .any base t v := hval0
  have hW' := hW
  obtain ⟨p, q, hA0, hV, rfl, hfz, hnd⟩ := hW
  have hA : DataW.TrodAll enc Tryz.prog W 0 (fun _ => true) true Tryz.f3.params.toList args.toList ds p := hA0
  rw [Tryz.params3] at hA hval
  obtain ⟨v0, vs0, d0, ds0, p0, q0, hargs, rfl, rfl, h0, r0⟩ := trodAll_cons hA
  obtain ⟨rfl, rfl, rfl⟩ := trodAll_nil r0
  obtain rfl : args = #[v0] := by cases args; simp_all
  obtain ⟨rfl, rfl⟩ := trodVars_none hV
  obtain ⟨a0, rfl, rfl, rfl, w0⟩ := open_int Tryz.underlying3 (hval 0 3 v0 rfl rfl) h0
  clear hA0 hval0
  refine (walk a0 W w0 (⟨shorts_in hX (by kernel_rfl) (List.mem_of_getElem? (i := 1) rfl), maxL_shaped hsh⟩)).mono fun e W' ⟨he, bel⟩ => ?_
  subst he
  exact ⟨_, rfl, _, _, _, [], _, [], hW', trodAll_mk1 (shut_bool Tryz.underlying4 _), (trodAll_cons_mk (shut_int Tryz.underlying3 w0) trodAll_mk0), rfl, bel.frame _, fun h => by cases h⟩

theorem over : Rows.checkFormsRow.holds Tryz.pinned (OpenSpec.ofChange Rows.checkFormsSpec) :=
  OpenClaim.holds_of_wide 3 Tryz.f3 rfl rfl rfl rfl rfl rfl rfl ⟨rfl, rfl, rfl, rfl, rfl⟩ rfl rfl rfl rfl rfl (by kernel_rfl) Tryz.func3 (by kernel_rfl)
    (of_decide_eq_true (by kernel_rfl)) (by unfold Func.isWrapper; first | (rw [if_pos (by decide +kernel)]; kernel_rfl) | (rw [if_neg (by decide +kernel)]; exact ⟨rfl, rfl⟩))
    (fun os started H enc _ => lifted os started H enc)

theorem proved : Rows.CheckFormsCardSaid :=
  Claim7.holds_tied_plain_at .later [] [.data, .data, .pinned] true (true, "344d43ccb330f5c9bfa6b815fba73f3813ab96e83cb29d99768c0348247aab23") false over (fun _ h => by cases h) (by kernel_rfl) (fun _ h => by cases h) checkForms_row_tie rfl ⟨rfl, rfl⟩ (by kernel_rfl) rfl
    (fun f fn hf hfn => by
      obtain rfl : f = 3 := Option.some.inj ((show Tryz.prog.funcNamed Rows.checkFormsRow.func = some 3 by kernel_rfl).symm.trans hf) |>.symm
      obtain rfl : fn = Tryz.f3 := (Option.some.inj (Tryz.func3.symm.trans hfn)).symm
      exact ⟨by kernel_rfl, fun j t ht => by
        rw [Tryz.params3] at ht
        have hm : t ∈ [3] := by simpa using Array.mem_of_getElem? ht
        have hall : ([3].all fun u => !Tryz.prog.wantsStandIn u) = true := by kernel_rfl
        exact (show Tryz.prog.wantsStandIn t = false by simpa using List.all_eq_true.1 hall t hm)⟩)
    (by kernel_rfl)
#print axioms proved
end Go.Proofs.YtnecapmnbaemiaaGreatDoor.checkForms
