/-
  Proved: the card of the law 'scholium/scholiumlaw12.InlineForms' (for every input it returns true, and every argument reads as it did before; the package variables that the row lists are tied to the program's text). No conditions.
-/
import Derived.Test.YtclgahmgoiobaaaGreatDoorRows
import Derived.Test.YtclgahmgoiobaaaGreatDoorCards
import Derived.Test.YtclgahmgoiobaaaGreatDoorTie
import Derived.Test.YtclgahmgoiobaaaGreatDoorMA
import Derived.Test.YtclgahmgoiobaaaGreatDoorMC
import Derived.Test.YtclgahmgoiobaaaGreatDoorMK
import Derived.WalkKit
import Derived.ProofKit
import Derived.OpenShut
import Derived.ShutString
import Derived.ChangeOld
import Derived.Below
import Derived.LaidMore
import Derived.Lay
import Derived.SevenTiedAt
namespace Go.Proofs.YtclgahmgoiobaaaGreatDoor.inlineForms
open Go.ChangeShapes Go.WideShapes Go.ChangeAt Go.RowKit
open Go.ChangeMaps (open_string shut_string)
set_option linter.unusedVariables false

theorem own : ownKnob Tryz.prog.godebug = none := by kernel_rfl
theorem laidOut : laidOutB Tryz.prog = true := by kernel_rfl

/-- A slice of integers that came in. -/
def IsRow (k : IntKind) (w : World) (a : Option Addr) (len cap : Nat) (zs : List Int) : Prop :=
  (a = none ∧ len = 0 ∧ cap = 0 ∧ zs = []) ∨
  ∃ x, a = some x ∧ len ≤ cap ∧ cap ≤ maxLen ∧ zs.length = cap ∧ (∀ i, i < zs.length → w.cell? (x.add i) = some (.int k (zs.getD i 0))) ∧ ∀ n ∈ zs, (Lit.int k n).wf = true

set_option maxRecDepth 100000
set_option linter.unusedSimpArgs false in
set_option maxHeartbeats 16000000 in
theorem walk (a0 : Int) (a1 : Bool) (w : World) (w0 : (Lit.int .i64 a0).wf = true) (hSM : Shorts w ∧ MaxL w) :
    Calls Tryz.prog 3 #[.int .i64 a0, .bool a1] w fun e w' => e = .returned (.bool true) ∧ Below w.heap.size w w' := by
  have hb0 := bounds_i64 w0
  have B0 : Hid (Below w.heap.size w w) := Below.refl _ _
  have HS := Lib.hid hSM.1
  have HM := Lib.hid hSM.2
  clear hSM
  go_enter Tryz.func3, Tryz.ntmps3
  go_wp2_with fail
  refine (within_nat a0 8 _ (by omega) (by omega) (by omega)).mono ?_
  rintro e w' ⟨q, hq, rfl, rfl⟩
  go_upto_region 2 with fail
  have hcs := fm_letter ⟨q, hq⟩
  have hbad := fm_bad ⟨q, hq⟩ a1
  have htxt := fm_txt ⟨q, hq⟩ a1
  have hgood := fm_good ⟨q, hq⟩ a1
  simp only at hcs hbad htxt hgood
  generalize ((⟨#[97, 98, 99, 100, 101, 102, 103, 104]⟩ : ByteArray).extract q 8).extract 0 1 = cs at *
  obtain ⟨x, hx⟩ : ∃ x : Int, 97 + (q : Int) = x := ⟨_, rfl⟩
  rw [hx] at hcs hbad htxt hgood
  have hcsz : cs.size ≤ 1 := by rw [← byt_len, hcs]; exact Nat.le_refl _
  clear hx
  have HCS := Lib.hid hcs
  have HBAD := Lib.hid hbad
  have HTXT := Lib.hid htxt
  clear hbad htxt
  obtain ⟨g0, h_g0⟩ : ∃ u, (⟨#[39]⟩ : ByteArray) ++ cs = u := ⟨_, rfl⟩
  have b_g0 : byt g0 = [39, x] := by rw [← h_g0, byt_append, hcs]; rfl
  have z_g0 : g0.size ≤ 2 := by rw [← byt_len, b_g0]; exact Nat.le_refl _
  obtain ⟨g1, h_g1⟩ : ∃ u, g0 ++ (⟨#[39]⟩ : ByteArray) = u := ⟨_, rfl⟩
  have b_g1 : byt g1 = [39, x, 39] := by rw [← h_g1, byt_append, b_g0]; rfl
  have z_g1 : g1.size ≤ 3 := by rw [← byt_len, b_g1]; exact Nat.le_refl _
  obtain ⟨g2, h_g2⟩ : ∃ u, (⟨#[91]⟩ : ByteArray) ++ cs = u := ⟨_, rfl⟩
  have b_g2 : byt g2 = [91, x] := by rw [← h_g2, byt_append, hcs]; rfl
  have z_g2 : g2.size ≤ 2 := by rw [← byt_len, b_g2]; exact Nat.le_refl _
  obtain ⟨g3, h_g3⟩ : ∃ u, g2 ++ (⟨#[93]⟩ : ByteArray) = u := ⟨_, rfl⟩
  have b_g3 : byt g3 = [91, x, 93] := by rw [← h_g3, byt_append, b_g2]; rfl
  have z_g3 : g3.size ≤ 3 := by rw [← byt_len, b_g3]; exact Nat.le_refl _
  obtain ⟨g4, h_g4⟩ : ∃ u, (⟨#[91, 32]⟩ : ByteArray) ++ cs = u := ⟨_, rfl⟩
  have b_g4 : byt g4 = [91, 32, x] := by rw [← h_g4, byt_append, hcs]; rfl
  have z_g4 : g4.size ≤ 3 := by rw [← byt_len, b_g4]; exact Nat.le_refl _
  obtain ⟨g5, h_g5⟩ : ∃ u, g4 ++ (⟨#[32, 44, 32, 98, 32, 93]⟩ : ByteArray) = u := ⟨_, rfl⟩
  have b_g5 : byt g5 = [91, 32, x, 32, 44, 32, 98, 32, 93] := by rw [← h_g5, byt_append, b_g4]; rfl
  have z_g5 : g5.size ≤ 9 := by rw [← byt_len, b_g5]; exact Nat.le_refl _
  obtain ⟨g6, h_g6⟩ : ∃ u, (⟨#[123]⟩ : ByteArray) ++ cs = u := ⟨_, rfl⟩
  have b_g6 : byt g6 = [123, x] := by rw [← h_g6, byt_append, hcs]; rfl
  have z_g6 : g6.size ≤ 2 := by rw [← byt_len, b_g6]; exact Nat.le_refl _
  obtain ⟨g7, h_g7⟩ : ∃ u, g6 ++ (⟨#[58, 32, 49, 125]⟩ : ByteArray) = u := ⟨_, rfl⟩
  have b_g7 : byt g7 = [123, x, 58, 32, 49, 125] := by rw [← h_g7, byt_append, b_g6]; rfl
  have z_g7 : g7.size ≤ 6 := by rw [← byt_len, b_g7]; exact Nat.le_refl _
  obtain ⟨g8, h_g8⟩ : ∃ u, g6 ++ (⟨#[58, 32, 125]⟩ : ByteArray) = u := ⟨_, rfl⟩
  have b_g8 : byt g8 = [123, x, 58, 32, 125] := by rw [← h_g8, byt_append, b_g6]; rfl
  have z_g8 : g8.size ≤ 5 := by rw [← byt_len, b_g8]; exact Nat.le_refl _
  obtain ⟨g9, h_g9⟩ : ∃ u, g6 ++ (⟨#[58, 44, 32, 98, 58, 32, 50, 125]⟩ : ByteArray) = u := ⟨_, rfl⟩
  have b_g9 : byt g9 = [123, x, 58, 44, 32, 98, 58, 32, 50, 125] := by rw [← h_g9, byt_append, b_g6]; rfl
  have z_g9 : g9.size ≤ 10 := by rw [← byt_len, b_g9]; exact Nat.le_refl _
  obtain ⟨g10, h_g10⟩ : ∃ u, (⟨#[123, 39]⟩ : ByteArray) ++ cs = u := ⟨_, rfl⟩
  have b_g10 : byt g10 = [123, 39, x] := by rw [← h_g10, byt_append, hcs]; rfl
  have z_g10 : g10.size ≤ 3 := by rw [← byt_len, b_g10]; exact Nat.le_refl _
  obtain ⟨g11, h_g11⟩ : ∃ u, g10 ++ (⟨#[39, 32, 58, 32, 91, 49, 93, 125]⟩ : ByteArray) = u := ⟨_, rfl⟩
  have b_g11 : byt g11 = [123, 39, x, 39, 32, 58, 32, 91, 49, 93, 125] := by rw [← h_g11, byt_append, b_g10]; rfl
  have z_g11 : g11.size ≤ 11 := by rw [← byt_len, b_g11]; exact Nat.le_refl _
  obtain ⟨g12, h_g12⟩ : ∃ u, (⟨#[42]⟩ : ByteArray) ++ cs = u := ⟨_, rfl⟩
  have b_g12 : byt g12 = [42, x] := by rw [← h_g12, byt_append, hcs]; rfl
  have z_g12 : g12.size ≤ 2 := by rw [← byt_len, b_g12]; exact Nat.le_refl _
  obtain ⟨g13, h_g13⟩ : ∃ u, (⟨#[38, 120, 32]⟩ : ByteArray) ++ cs = u := ⟨_, rfl⟩
  have b_g13 : byt g13 = [38, 120, 32, x] := by rw [← h_g13, byt_append, hcs]; rfl
  have z_g13 : g13.size ≤ 4 := by rw [← byt_len, b_g13]; exact Nat.le_refl _
  obtain ⟨g14, h_g14⟩ : ∃ u, (⟨#[91, 42]⟩ : ByteArray) ++ cs = u := ⟨_, rfl⟩
  have b_g14 : byt g14 = [91, 42, x] := by rw [← h_g14, byt_append, hcs]; rfl
  have z_g14 : g14.size ≤ 3 := by rw [← byt_len, b_g14]; exact Nat.le_refl _
  obtain ⟨g15, h_g15⟩ : ∃ u, g14 ++ (⟨#[32, 44, 32, 42, 98, 93]⟩ : ByteArray) = u := ⟨_, rfl⟩
  have b_g15 : byt g15 = [91, 42, x, 32, 44, 32, 42, 98, 93] := by rw [← h_g15, byt_append, b_g14]; rfl
  have z_g15 : g15.size ≤ 9 := by rw [← byt_len, b_g15]; exact Nat.le_refl _
  obtain ⟨g16, h_g16⟩ : ∃ u, (⟨#[91, 33, 116, 32, 44, 32]⟩ : ByteArray) ++ cs = u := ⟨_, rfl⟩
  have b_g16 : byt g16 = [91, 33, 116, 32, 44, 32, x] := by rw [← h_g16, byt_append, hcs]; rfl
  have z_g16 : g16.size ≤ 7 := by rw [← byt_len, b_g16]; exact Nat.le_refl _
  obtain ⟨g17, h_g17⟩ : ∃ u, g16 ++ (⟨#[93]⟩ : ByteArray) = u := ⟨_, rfl⟩
  have b_g17 : byt g17 = [91, 33, 116, 32, 44, 32, x, 93] := by rw [← h_g17, byt_append, b_g16]; rfl
  have z_g17 : g17.size ≤ 8 := by rw [← byt_len, b_g17]; exact Nat.le_refl _
  obtain ⟨g18, h_g18⟩ : ∃ u, (⟨#[38, 120, 32, 91]⟩ : ByteArray) ++ cs = u := ⟨_, rfl⟩
  have b_g18 : byt g18 = [38, 120, 32, 91, x] := by rw [← h_g18, byt_append, hcs]; rfl
  have z_g18 : g18.size ≤ 5 := by rw [← byt_len, b_g18]; exact Nat.le_refl _
  obtain ⟨g19, h_g19⟩ : ∃ u, g18 ++ (⟨#[93]⟩ : ByteArray) = u := ⟨_, rfl⟩
  have b_g19 : byt g19 = [38, 120, 32, 91, x, 93] := by rw [← h_g19, byt_append, b_g18]; rfl
  have z_g19 : g19.size ≤ 6 := by rw [← byt_len, b_g19]; exact Nat.le_refl _
  obtain ⟨g20, h_g20⟩ : ∃ u, (⟨#[34]⟩ : ByteArray) ++ cs = u := ⟨_, rfl⟩
  have b_g20 : byt g20 = [34, x] := by rw [← h_g20, byt_append, hcs]; rfl
  have z_g20 : g20.size ≤ 2 := by rw [← byt_len, b_g20]; exact Nat.le_refl _
  obtain ⟨g21, h_g21⟩ : ∃ u, g20 ++ (⟨#[92, 110, 34]⟩ : ByteArray) = u := ⟨_, rfl⟩
  have b_g21 : byt g21 = [34, x, 92, 110, 34] := by rw [← h_g21, byt_append, b_g20]; rfl
  have z_g21 : g21.size ≤ 5 := by rw [← byt_len, b_g21]; exact Nat.le_refl _
  obtain ⟨g22, h_g22⟩ : ∃ u, (⟨#[45]⟩ : ByteArray) ++ cs = u := ⟨_, rfl⟩
  have b_g22 : byt g22 = [45, x] := by rw [← h_g22, byt_append, hcs]; rfl
  have z_g22 : g22.size ≤ 2 := by rw [← byt_len, b_g22]; exact Nat.le_refl _
  obtain ⟨g23, h_g23⟩ : ∃ u, (⟨#[32]⟩ : ByteArray) ++ cs = u := ⟨_, rfl⟩
  have b_g23 : byt g23 = [32, x] := by rw [← h_g23, byt_append, hcs]; rfl
  have z_g23 : g23.size ≤ 2 := by rw [← byt_len, b_g23]; exact Nat.le_refl _
  obtain ⟨TB, hTB⟩ : ∃ TB : List (ByteArray × Int), TB = [(cs, 1), (g1, 1), (⟨#[91, 93]⟩, 1), (⟨#[91, 32, 93]⟩, 1), (⟨#[123, 125]⟩, 1), (g3, 2), (g5, 3), (g7, 3), (g8, 3), (g9, 5), (g11, 4), (⟨#[91, 91, 93, 44, 32, 123, 125, 93]⟩, 3), (g12, 1), (g13, 1), (⟨#[33, 116]⟩, 1), (⟨#[38, 120, 32, 33, 33, 115, 116, 114]⟩, 1), (g15, 3), (g17, 3), (g19, 2), (g21, 1), (g22, 1), (g23, 1)] := ⟨_, rfl⟩
  have hTb : TB.map (fun p => (byt p.1, p.2)) = fmGood x := by
    rw [hTB]
    simp only [List.map_cons, List.map_nil, hcs, b_g1, b_g3, b_g5, b_g7, b_g8, b_g9, b_g11, b_g12, b_g13, b_g15, b_g17, b_g19, b_g21, b_g22, b_g23]
    rfl
  obtain ⟨T, hT⟩ : ∃ T : List (List UInt8 × Int), T = TB.map (fun p => (p.1.data.toList, p.2)) := ⟨_, rfl⟩
  have HTF : Hid (TblOk a1 T) := by
    intro s c hm
    rw [hT] at hm
    obtain ⟨p, hp, he⟩ := List.mem_map.1 hm
    have e1 := congrArg Prod.fst he
    have e2 := congrArg Prod.snd he
    simp only at e1 e2
    obtain rfl : p.1 = s := ByteArray.ext (Array.toList_inj.1 e1)
    subst e2
    have hg : (byt p.1, p.2) ∈ fmGood x := by rw [← hTb]; exact List.mem_map_of_mem (f := fun p : ByteArray × Int => (byt p.1, p.2)) hp
    have h1 := okB_eq (List.all_eq_true.1 hgood _ hg)
    refine ⟨?_, h1⟩
    rw [← byt_len]
    exact good_len x _ hg
  have HT0 : Hid ((cs.data.toList, (1 : Int)) ∈ T) := by show _ ∈ _; rw [hT, hTB]; simp
  have HT1 : Hid ((g1.data.toList, (1 : Int)) ∈ T) := by show _ ∈ _; rw [hT, hTB]; simp
  have HT2 : Hid (((⟨#[91, 93]⟩ : ByteArray).data.toList, (1 : Int)) ∈ T) := by show _ ∈ _; rw [hT, hTB]; simp
  have HT3 : Hid (((⟨#[91, 32, 93]⟩ : ByteArray).data.toList, (1 : Int)) ∈ T) := by show _ ∈ _; rw [hT, hTB]; simp
  have HT4 : Hid (((⟨#[123, 125]⟩ : ByteArray).data.toList, (1 : Int)) ∈ T) := by show _ ∈ _; rw [hT, hTB]; simp
  have HT5 : Hid ((g3.data.toList, (2 : Int)) ∈ T) := by show _ ∈ _; rw [hT, hTB]; simp
  have HT6 : Hid ((g5.data.toList, (3 : Int)) ∈ T) := by show _ ∈ _; rw [hT, hTB]; simp
  have HT7 : Hid ((g7.data.toList, (3 : Int)) ∈ T) := by show _ ∈ _; rw [hT, hTB]; simp
  have HT8 : Hid ((g8.data.toList, (3 : Int)) ∈ T) := by show _ ∈ _; rw [hT, hTB]; simp
  have HT9 : Hid ((g9.data.toList, (5 : Int)) ∈ T) := by show _ ∈ _; rw [hT, hTB]; simp
  have HT10 : Hid ((g11.data.toList, (4 : Int)) ∈ T) := by show _ ∈ _; rw [hT, hTB]; simp
  have HT11 : Hid (((⟨#[91, 91, 93, 44, 32, 123, 125, 93]⟩ : ByteArray).data.toList, (3 : Int)) ∈ T) := by show _ ∈ _; rw [hT, hTB]; simp
  have HT12 : Hid ((g12.data.toList, (1 : Int)) ∈ T) := by show _ ∈ _; rw [hT, hTB]; simp
  have HT13 : Hid ((g13.data.toList, (1 : Int)) ∈ T) := by show _ ∈ _; rw [hT, hTB]; simp
  have HT14 : Hid (((⟨#[33, 116]⟩ : ByteArray).data.toList, (1 : Int)) ∈ T) := by show _ ∈ _; rw [hT, hTB]; simp
  have HT15 : Hid (((⟨#[38, 120, 32, 33, 33, 115, 116, 114]⟩ : ByteArray).data.toList, (1 : Int)) ∈ T) := by show _ ∈ _; rw [hT, hTB]; simp
  have HT16 : Hid ((g15.data.toList, (3 : Int)) ∈ T) := by show _ ∈ _; rw [hT, hTB]; simp
  have HT17 : Hid ((g17.data.toList, (3 : Int)) ∈ T) := by show _ ∈ _; rw [hT, hTB]; simp
  have HT18 : Hid ((g19.data.toList, (2 : Int)) ∈ T) := by show _ ∈ _; rw [hT, hTB]; simp
  have HT19 : Hid ((g21.data.toList, (1 : Int)) ∈ T) := by show _ ∈ _; rw [hT, hTB]; simp
  have HT20 : Hid ((g22.data.toList, (1 : Int)) ∈ T) := by show _ ∈ _; rw [hT, hTB]; simp
  have HT21 : Hid ((g23.data.toList, (1 : Int)) ∈ T) := by show _ ∈ _; rw [hT, hTB]; simp
  clear b_g0 b_g1 b_g2 b_g3 b_g4 b_g5 b_g6 b_g7 b_g8 b_g9 b_g10 b_g11 b_g12 b_g13 b_g14 b_g15 b_g16 b_g17 b_g18 b_g19 b_g20 b_g21 b_g22 b_g23 hcs hgood hTB hTb hT
  refine gen_act fun a0 hA => ?_
  have hsz : a0.tmps.size = 182 := by rw [hA]; rfl
  have e5 : a0.eval (.tmp 5) = .string cs := by rw [hA]; rfl
  refine region_gate (fun _ => True) 66 (by kernel_rfl) ?_
  change wpGate _ _ _ _ _ _ 67 _ _ _
  refine gate_take0 (i := 1) (v := .string cs) rfl (by rfl) (by kernel_rfl) (by kernel_rfl) (by kernel_rfl) (fun _ _ _ h => h) rfl (fun V => move_exec _ (.tmp 5) rfl _ _ (by simp [evp_same, evp_ne, szp, hsz, e5]) V) trivial ?_
  refine gate_take0 (i := 3) (v := .string cs) rfl (by rfl) (by kernel_rfl) (by kernel_rfl) (by kernel_rfl) (fun _ _ _ h => h) rfl (fun V => move_exec _ (.tmp 5) rfl _ _ (by simp [evp_same, evp_ne, szp, hsz, e5]) V) trivial ?_
  refine gate_take0 (i := 4) (v := .string g0) rfl (by rfl) (by kernel_rfl) (by kernel_rfl) (by kernel_rfl) (fun _ _ _ h => h) rfl (fun V => add_exec _ (.const (.string ⟨#[39]⟩)) (.tmp 24) _ rfl _ ⟨#[39]⟩ cs g0 (rfl) (by simp [evp_same, evp_ne, szp, hsz, e5]) h_g0 (by have : (⟨#[39]⟩ : ByteArray).size = 1 := rfl; omega) V) trivial ?_
  refine gate_take0 (i := 5) (v := .string g1) rfl (by rfl) (by kernel_rfl) (by kernel_rfl) (by kernel_rfl) (fun _ _ _ h => h) rfl (fun V => add_exec _ (.tmp 25) (.const (.string ⟨#[39]⟩)) _ rfl _ g0 ⟨#[39]⟩ g1 (by simp [evp_same, evp_ne, szp, hsz, e5]) (rfl) h_g1 (by have : (⟨#[39]⟩ : ByteArray).size = 1 := rfl; omega) V) trivial ?_
  refine gate_take0 (i := 10) (v := .string cs) rfl (by rfl) (by kernel_rfl) (by kernel_rfl) (by kernel_rfl) (fun _ _ _ h => h) rfl (fun V => move_exec _ (.tmp 5) rfl _ _ (by simp [evp_same, evp_ne, szp, hsz, e5]) V) trivial ?_
  refine gate_take0 (i := 11) (v := .string g2) rfl (by rfl) (by kernel_rfl) (by kernel_rfl) (by kernel_rfl) (fun _ _ _ h => h) rfl (fun V => add_exec _ (.const (.string ⟨#[91]⟩)) (.tmp 27) _ rfl _ ⟨#[91]⟩ cs g2 (rfl) (by simp [evp_same, evp_ne, szp, hsz, e5]) h_g2 (by have : (⟨#[91]⟩ : ByteArray).size = 1 := rfl; omega) V) trivial ?_
  refine gate_take0 (i := 12) (v := .string g3) rfl (by rfl) (by kernel_rfl) (by kernel_rfl) (by kernel_rfl) (fun _ _ _ h => h) rfl (fun V => add_exec _ (.tmp 28) (.const (.string ⟨#[93]⟩)) _ rfl _ g2 ⟨#[93]⟩ g3 (by simp [evp_same, evp_ne, szp, hsz, e5]) (rfl) h_g3 (by have : (⟨#[93]⟩ : ByteArray).size = 1 := rfl; omega) V) trivial ?_
  refine gate_take0 (i := 14) (v := .string cs) rfl (by rfl) (by kernel_rfl) (by kernel_rfl) (by kernel_rfl) (fun _ _ _ h => h) rfl (fun V => move_exec _ (.tmp 5) rfl _ _ (by simp [evp_same, evp_ne, szp, hsz, e5]) V) trivial ?_
  refine gate_take0 (i := 15) (v := .string g4) rfl (by rfl) (by kernel_rfl) (by kernel_rfl) (by kernel_rfl) (fun _ _ _ h => h) rfl (fun V => add_exec _ (.const (.string ⟨#[91, 32]⟩)) (.tmp 30) _ rfl _ ⟨#[91, 32]⟩ cs g4 (rfl) (by simp [evp_same, evp_ne, szp, hsz, e5]) h_g4 (by have : (⟨#[91, 32]⟩ : ByteArray).size = 2 := rfl; omega) V) trivial ?_
  refine gate_take0 (i := 16) (v := .string g5) rfl (by rfl) (by kernel_rfl) (by kernel_rfl) (by kernel_rfl) (fun _ _ _ h => h) rfl (fun V => add_exec _ (.tmp 31) (.const (.string ⟨#[32, 44, 32, 98, 32, 93]⟩)) _ rfl _ g4 ⟨#[32, 44, 32, 98, 32, 93]⟩ g5 (by simp [evp_same, evp_ne, szp, hsz, e5]) (rfl) h_g5 (by have : (⟨#[32, 44, 32, 98, 32, 93]⟩ : ByteArray).size = 6 := rfl; omega) V) trivial ?_
  refine gate_take0 (i := 18) (v := .string cs) rfl (by rfl) (by kernel_rfl) (by kernel_rfl) (by kernel_rfl) (fun _ _ _ h => h) rfl (fun V => move_exec _ (.tmp 5) rfl _ _ (by simp [evp_same, evp_ne, szp, hsz, e5]) V) trivial ?_
  refine gate_take0 (i := 19) (v := .string g6) rfl (by rfl) (by kernel_rfl) (by kernel_rfl) (by kernel_rfl) (fun _ _ _ h => h) rfl (fun V => add_exec _ (.const (.string ⟨#[123]⟩)) (.tmp 33) _ rfl _ ⟨#[123]⟩ cs g6 (rfl) (by simp [evp_same, evp_ne, szp, hsz, e5]) h_g6 (by have : (⟨#[123]⟩ : ByteArray).size = 1 := rfl; omega) V) trivial ?_
  refine gate_take0 (i := 20) (v := .string g7) rfl (by rfl) (by kernel_rfl) (by kernel_rfl) (by kernel_rfl) (fun _ _ _ h => h) rfl (fun V => add_exec _ (.tmp 34) (.const (.string ⟨#[58, 32, 49, 125]⟩)) _ rfl _ g6 ⟨#[58, 32, 49, 125]⟩ g7 (by simp [evp_same, evp_ne, szp, hsz, e5]) (rfl) h_g7 (by have : (⟨#[58, 32, 49, 125]⟩ : ByteArray).size = 4 := rfl; omega) V) trivial ?_
  refine gate_take0 (i := 22) (v := .string cs) rfl (by rfl) (by kernel_rfl) (by kernel_rfl) (by kernel_rfl) (fun _ _ _ h => h) rfl (fun V => move_exec _ (.tmp 5) rfl _ _ (by simp [evp_same, evp_ne, szp, hsz, e5]) V) trivial ?_
  refine gate_take0 (i := 23) (v := .string g6) rfl (by rfl) (by kernel_rfl) (by kernel_rfl) (by kernel_rfl) (fun _ _ _ h => h) rfl (fun V => add_exec _ (.const (.string ⟨#[123]⟩)) (.tmp 36) _ rfl _ ⟨#[123]⟩ cs g6 (rfl) (by simp [evp_same, evp_ne, szp, hsz, e5]) h_g6 (by have : (⟨#[123]⟩ : ByteArray).size = 1 := rfl; omega) V) trivial ?_
  refine gate_take0 (i := 24) (v := .string g8) rfl (by rfl) (by kernel_rfl) (by kernel_rfl) (by kernel_rfl) (fun _ _ _ h => h) rfl (fun V => add_exec _ (.tmp 37) (.const (.string ⟨#[58, 32, 125]⟩)) _ rfl _ g6 ⟨#[58, 32, 125]⟩ g8 (by simp [evp_same, evp_ne, szp, hsz, e5]) (rfl) h_g8 (by have : (⟨#[58, 32, 125]⟩ : ByteArray).size = 3 := rfl; omega) V) trivial ?_
  refine gate_take0 (i := 26) (v := .string cs) rfl (by rfl) (by kernel_rfl) (by kernel_rfl) (by kernel_rfl) (fun _ _ _ h => h) rfl (fun V => move_exec _ (.tmp 5) rfl _ _ (by simp [evp_same, evp_ne, szp, hsz, e5]) V) trivial ?_
  refine gate_take0 (i := 27) (v := .string g6) rfl (by rfl) (by kernel_rfl) (by kernel_rfl) (by kernel_rfl) (fun _ _ _ h => h) rfl (fun V => add_exec _ (.const (.string ⟨#[123]⟩)) (.tmp 39) _ rfl _ ⟨#[123]⟩ cs g6 (rfl) (by simp [evp_same, evp_ne, szp, hsz, e5]) h_g6 (by have : (⟨#[123]⟩ : ByteArray).size = 1 := rfl; omega) V) trivial ?_
  refine gate_take0 (i := 28) (v := .string g9) rfl (by rfl) (by kernel_rfl) (by kernel_rfl) (by kernel_rfl) (fun _ _ _ h => h) rfl (fun V => add_exec _ (.tmp 40) (.const (.string ⟨#[58, 44, 32, 98, 58, 32, 50, 125]⟩)) _ rfl _ g6 ⟨#[58, 44, 32, 98, 58, 32, 50, 125]⟩ g9 (by simp [evp_same, evp_ne, szp, hsz, e5]) (rfl) h_g9 (by have : (⟨#[58, 44, 32, 98, 58, 32, 50, 125]⟩ : ByteArray).size = 8 := rfl; omega) V) trivial ?_
  refine gate_take0 (i := 30) (v := .string cs) rfl (by rfl) (by kernel_rfl) (by kernel_rfl) (by kernel_rfl) (fun _ _ _ h => h) rfl (fun V => move_exec _ (.tmp 5) rfl _ _ (by simp [evp_same, evp_ne, szp, hsz, e5]) V) trivial ?_
  refine gate_take0 (i := 31) (v := .string g10) rfl (by rfl) (by kernel_rfl) (by kernel_rfl) (by kernel_rfl) (fun _ _ _ h => h) rfl (fun V => add_exec _ (.const (.string ⟨#[123, 39]⟩)) (.tmp 42) _ rfl _ ⟨#[123, 39]⟩ cs g10 (rfl) (by simp [evp_same, evp_ne, szp, hsz, e5]) h_g10 (by have : (⟨#[123, 39]⟩ : ByteArray).size = 2 := rfl; omega) V) trivial ?_
  refine gate_take0 (i := 32) (v := .string g11) rfl (by rfl) (by kernel_rfl) (by kernel_rfl) (by kernel_rfl) (fun _ _ _ h => h) rfl (fun V => add_exec _ (.tmp 43) (.const (.string ⟨#[39, 32, 58, 32, 91, 49, 93, 125]⟩)) _ rfl _ g10 ⟨#[39, 32, 58, 32, 91, 49, 93, 125]⟩ g11 (by simp [evp_same, evp_ne, szp, hsz, e5]) (rfl) h_g11 (by have : (⟨#[39, 32, 58, 32, 91, 49, 93, 125]⟩ : ByteArray).size = 8 := rfl; omega) V) trivial ?_
  refine gate_take0 (i := 35) (v := .string cs) rfl (by rfl) (by kernel_rfl) (by kernel_rfl) (by kernel_rfl) (fun _ _ _ h => h) rfl (fun V => move_exec _ (.tmp 5) rfl _ _ (by simp [evp_same, evp_ne, szp, hsz, e5]) V) trivial ?_
  refine gate_take0 (i := 36) (v := .string g12) rfl (by rfl) (by kernel_rfl) (by kernel_rfl) (by kernel_rfl) (fun _ _ _ h => h) rfl (fun V => add_exec _ (.const (.string ⟨#[42]⟩)) (.tmp 45) _ rfl _ ⟨#[42]⟩ cs g12 (rfl) (by simp [evp_same, evp_ne, szp, hsz, e5]) h_g12 (by have : (⟨#[42]⟩ : ByteArray).size = 1 := rfl; omega) V) trivial ?_
  refine gate_take0 (i := 38) (v := .string cs) rfl (by rfl) (by kernel_rfl) (by kernel_rfl) (by kernel_rfl) (fun _ _ _ h => h) rfl (fun V => move_exec _ (.tmp 5) rfl _ _ (by simp [evp_same, evp_ne, szp, hsz, e5]) V) trivial ?_
  refine gate_take0 (i := 39) (v := .string g13) rfl (by rfl) (by kernel_rfl) (by kernel_rfl) (by kernel_rfl) (fun _ _ _ h => h) rfl (fun V => add_exec _ (.const (.string ⟨#[38, 120, 32]⟩)) (.tmp 47) _ rfl _ ⟨#[38, 120, 32]⟩ cs g13 (rfl) (by simp [evp_same, evp_ne, szp, hsz, e5]) h_g13 (by have : (⟨#[38, 120, 32]⟩ : ByteArray).size = 3 := rfl; omega) V) trivial ?_
  refine gate_take0 (i := 43) (v := .string cs) rfl (by rfl) (by kernel_rfl) (by kernel_rfl) (by kernel_rfl) (fun _ _ _ h => h) rfl (fun V => move_exec _ (.tmp 5) rfl _ _ (by simp [evp_same, evp_ne, szp, hsz, e5]) V) trivial ?_
  refine gate_take0 (i := 44) (v := .string g14) rfl (by rfl) (by kernel_rfl) (by kernel_rfl) (by kernel_rfl) (fun _ _ _ h => h) rfl (fun V => add_exec _ (.const (.string ⟨#[91, 42]⟩)) (.tmp 49) _ rfl _ ⟨#[91, 42]⟩ cs g14 (rfl) (by simp [evp_same, evp_ne, szp, hsz, e5]) h_g14 (by have : (⟨#[91, 42]⟩ : ByteArray).size = 2 := rfl; omega) V) trivial ?_
  refine gate_take0 (i := 45) (v := .string g15) rfl (by rfl) (by kernel_rfl) (by kernel_rfl) (by kernel_rfl) (fun _ _ _ h => h) rfl (fun V => add_exec _ (.tmp 50) (.const (.string ⟨#[32, 44, 32, 42, 98, 93]⟩)) _ rfl _ g14 ⟨#[32, 44, 32, 42, 98, 93]⟩ g15 (by simp [evp_same, evp_ne, szp, hsz, e5]) (rfl) h_g15 (by have : (⟨#[32, 44, 32, 42, 98, 93]⟩ : ByteArray).size = 6 := rfl; omega) V) trivial ?_
  refine gate_take0 (i := 47) (v := .string cs) rfl (by rfl) (by kernel_rfl) (by kernel_rfl) (by kernel_rfl) (fun _ _ _ h => h) rfl (fun V => move_exec _ (.tmp 5) rfl _ _ (by simp [evp_same, evp_ne, szp, hsz, e5]) V) trivial ?_
  refine gate_take0 (i := 48) (v := .string g16) rfl (by rfl) (by kernel_rfl) (by kernel_rfl) (by kernel_rfl) (fun _ _ _ h => h) rfl (fun V => add_exec _ (.const (.string ⟨#[91, 33, 116, 32, 44, 32]⟩)) (.tmp 52) _ rfl _ ⟨#[91, 33, 116, 32, 44, 32]⟩ cs g16 (rfl) (by simp [evp_same, evp_ne, szp, hsz, e5]) h_g16 (by have : (⟨#[91, 33, 116, 32, 44, 32]⟩ : ByteArray).size = 6 := rfl; omega) V) trivial ?_
  refine gate_take0 (i := 49) (v := .string g17) rfl (by rfl) (by kernel_rfl) (by kernel_rfl) (by kernel_rfl) (fun _ _ _ h => h) rfl (fun V => add_exec _ (.tmp 53) (.const (.string ⟨#[93]⟩)) _ rfl _ g16 ⟨#[93]⟩ g17 (by simp [evp_same, evp_ne, szp, hsz, e5]) (rfl) h_g17 (by have : (⟨#[93]⟩ : ByteArray).size = 1 := rfl; omega) V) trivial ?_
  refine gate_take0 (i := 51) (v := .string cs) rfl (by rfl) (by kernel_rfl) (by kernel_rfl) (by kernel_rfl) (fun _ _ _ h => h) rfl (fun V => move_exec _ (.tmp 5) rfl _ _ (by simp [evp_same, evp_ne, szp, hsz, e5]) V) trivial ?_
  refine gate_take0 (i := 52) (v := .string g18) rfl (by rfl) (by kernel_rfl) (by kernel_rfl) (by kernel_rfl) (fun _ _ _ h => h) rfl (fun V => add_exec _ (.const (.string ⟨#[38, 120, 32, 91]⟩)) (.tmp 55) _ rfl _ ⟨#[38, 120, 32, 91]⟩ cs g18 (rfl) (by simp [evp_same, evp_ne, szp, hsz, e5]) h_g18 (by have : (⟨#[38, 120, 32, 91]⟩ : ByteArray).size = 4 := rfl; omega) V) trivial ?_
  refine gate_take0 (i := 53) (v := .string g19) rfl (by rfl) (by kernel_rfl) (by kernel_rfl) (by kernel_rfl) (fun _ _ _ h => h) rfl (fun V => add_exec _ (.tmp 56) (.const (.string ⟨#[93]⟩)) _ rfl _ g18 ⟨#[93]⟩ g19 (by simp [evp_same, evp_ne, szp, hsz, e5]) (rfl) h_g19 (by have : (⟨#[93]⟩ : ByteArray).size = 1 := rfl; omega) V) trivial ?_
  refine gate_take0 (i := 55) (v := .string cs) rfl (by rfl) (by kernel_rfl) (by kernel_rfl) (by kernel_rfl) (fun _ _ _ h => h) rfl (fun V => move_exec _ (.tmp 5) rfl _ _ (by simp [evp_same, evp_ne, szp, hsz, e5]) V) trivial ?_
  refine gate_take0 (i := 56) (v := .string g20) rfl (by rfl) (by kernel_rfl) (by kernel_rfl) (by kernel_rfl) (fun _ _ _ h => h) rfl (fun V => add_exec _ (.const (.string ⟨#[34]⟩)) (.tmp 58) _ rfl _ ⟨#[34]⟩ cs g20 (rfl) (by simp [evp_same, evp_ne, szp, hsz, e5]) h_g20 (by have : (⟨#[34]⟩ : ByteArray).size = 1 := rfl; omega) V) trivial ?_
  refine gate_take0 (i := 57) (v := .string g21) rfl (by rfl) (by kernel_rfl) (by kernel_rfl) (by kernel_rfl) (fun _ _ _ h => h) rfl (fun V => add_exec _ (.tmp 59) (.const (.string ⟨#[92, 110, 34]⟩)) _ rfl _ g20 ⟨#[92, 110, 34]⟩ g21 (by simp [evp_same, evp_ne, szp, hsz, e5]) (rfl) h_g21 (by have : (⟨#[92, 110, 34]⟩ : ByteArray).size = 3 := rfl; omega) V) trivial ?_
  refine gate_take0 (i := 59) (v := .string cs) rfl (by rfl) (by kernel_rfl) (by kernel_rfl) (by kernel_rfl) (fun _ _ _ h => h) rfl (fun V => move_exec _ (.tmp 5) rfl _ _ (by simp [evp_same, evp_ne, szp, hsz, e5]) V) trivial ?_
  refine gate_take0 (i := 60) (v := .string g22) rfl (by rfl) (by kernel_rfl) (by kernel_rfl) (by kernel_rfl) (fun _ _ _ h => h) rfl (fun V => add_exec _ (.const (.string ⟨#[45]⟩)) (.tmp 61) _ rfl _ ⟨#[45]⟩ cs g22 (rfl) (by simp [evp_same, evp_ne, szp, hsz, e5]) h_g22 (by have : (⟨#[45]⟩ : ByteArray).size = 1 := rfl; omega) V) trivial ?_
  refine gate_take0 (i := 62) (v := .string cs) rfl (by rfl) (by kernel_rfl) (by kernel_rfl) (by kernel_rfl) (fun _ _ _ h => h) rfl (fun V => move_exec _ (.tmp 5) rfl _ _ (by simp [evp_same, evp_ne, szp, hsz, e5]) V) trivial ?_
  refine gate_take0 (i := 63) (v := .string g23) rfl (by rfl) (by kernel_rfl) (by kernel_rfl) (by kernel_rfl) (fun _ _ _ h => h) rfl (fun V => add_exec _ (.const (.string ⟨#[32]⟩)) (.tmp 63) _ rfl _ ⟨#[32]⟩ cs g23 (rfl) (by simp [evp_same, evp_ne, szp, hsz, e5]) h_g23 (by have : (⟨#[32]⟩ : ByteArray).size = 1 := rfl; omega) V) trivial ?_
  refine gate_one (i := 0) (by kernel_rfl) ?_
  refine wpOp_value (v := .map (some w.drew.heap.size)) (w' := w.drew.alloc (.map #[] 0)) rfl rfl (makeMap_exec _ _ rfl _ _) ⟨fun _ => trivial, ?_⟩
  obtain ⟨B, hB⟩ : ∃ B, w.drew.heap.size = B := ⟨_, rfl⟩
  have hBw : w.heap.size ≤ B := by rw [← hB]; exact B0.out.size
  have HI : InvM w B T 22 (w.drew.alloc (.map #[] 0)) := ⟨0, .map [], by omega, by rw [← hB]; exact ownSI_new _, allIn_nil _, B0.out.drew.alloc B0.out.drew.size _⟩
  rw [hB]
  generalize w.drew.alloc (.map #[] 0) = W1 at *
  refine gate_gen fun a1' hA0 => ?_
  have hA1 : a1' = (((((((((((((((((((((((((((((((((((((((((((a0.put (some 23) (.string cs)).put (some 24) (.string cs)).put (some 25) (.string g0)).put (some 26) (.string g1)).put (some 27) (.string cs)).put (some 28) (.string g2)).put (some 29) (.string g3)).put (some 30) (.string cs)).put (some 31) (.string g4)).put (some 32) (.string g5)).put (some 33) (.string cs)).put (some 34) (.string g6)).put (some 35) (.string g7)).put (some 36) (.string cs)).put (some 37) (.string g6)).put (some 38) (.string g8)).put (some 39) (.string cs)).put (some 40) (.string g6)).put (some 41) (.string g9)).put (some 42) (.string cs)).put (some 43) (.string g10)).put (some 44) (.string g11)).put (some 45) (.string cs)).put (some 46) (.string g12)).put (some 47) (.string cs)).put (some 48) (.string g13)).put (some 49) (.string cs)).put (some 50) (.string g14)).put (some 51) (.string g15)).put (some 52) (.string cs)).put (some 53) (.string g16)).put (some 54) (.string g17)).put (some 55) (.string cs)).put (some 56) (.string g18)).put (some 57) (.string g19)).put (some 58) (.string cs)).put (some 59) (.string g20)).put (some 60) (.string g21)).put (some 61) (.string cs)).put (some 62) (.string g22)).put (some 63) (.string cs)).put (some 64) (.string g23)).put (some 22) (.map (some B))) := hA0
  clear hA0
  have hsz1 : a1'.tmps.size = 182 := by rw [hA1]; simp [szp, hsz]
  have e22 : a1'.eval (.tmp 22) = .map (some B) := by rw [hA1]; simp [evp_same, evp_ne, szp, hsz]
  have e23 : a1'.eval (.tmp 23) = .string cs := by rw [hA1]; simp [evp_same, evp_ne, szp, hsz]
  have e26 : a1'.eval (.tmp 26) = .string g1 := by rw [hA1]; simp [evp_same, evp_ne, szp, hsz]
  have e29 : a1'.eval (.tmp 29) = .string g3 := by rw [hA1]; simp [evp_same, evp_ne, szp, hsz]
  have e32 : a1'.eval (.tmp 32) = .string g5 := by rw [hA1]; simp [evp_same, evp_ne, szp, hsz]
  have e35 : a1'.eval (.tmp 35) = .string g7 := by rw [hA1]; simp [evp_same, evp_ne, szp, hsz]
  have e38 : a1'.eval (.tmp 38) = .string g8 := by rw [hA1]; simp [evp_same, evp_ne, szp, hsz]
  have e41 : a1'.eval (.tmp 41) = .string g9 := by rw [hA1]; simp [evp_same, evp_ne, szp, hsz]
  have e44 : a1'.eval (.tmp 44) = .string g11 := by rw [hA1]; simp [evp_same, evp_ne, szp, hsz]
  have e46 : a1'.eval (.tmp 46) = .string g12 := by rw [hA1]; simp [evp_same, evp_ne, szp, hsz]
  have e48 : a1'.eval (.tmp 48) = .string g13 := by rw [hA1]; simp [evp_same, evp_ne, szp, hsz]
  have e51 : a1'.eval (.tmp 51) = .string g15 := by rw [hA1]; simp [evp_same, evp_ne, szp, hsz]
  have e54 : a1'.eval (.tmp 54) = .string g17 := by rw [hA1]; simp [evp_same, evp_ne, szp, hsz]
  have e57 : a1'.eval (.tmp 57) = .string g19 := by rw [hA1]; simp [evp_same, evp_ne, szp, hsz]
  have e60 : a1'.eval (.tmp 60) = .string g21 := by rw [hA1]; simp [evp_same, evp_ne, szp, hsz]
  have e62 : a1'.eval (.tmp 62) = .string g22 := by rw [hA1]; simp [evp_same, evp_ne, szp, hsz]
  have e64 : a1'.eval (.tmp 64) = .string g23 := by rw [hA1]; simp [evp_same, evp_ne, szp, hsz]
  change wpGate _ _ _ _ _ _ (22 + 2) _ _ _
  refine gate_any (a := a1') (I := [2, 6, 7, 8, 9, 13, 17, 21, 25, 29, 33, 34, 37, 40, 41, 42, 46, 50, 54, 58, 61, 64]) (Lf := #[true, true, true, true, true, true, true, true, true, true, true, true, true, true, true, true, true, true, true, true, true, true, true, true, true, true, true, true, true, true, true, true, true, true, true, true, true, true, true, true, true, true, true, true, true, true, true, true, true, true, true, true, true, true, true, true, true, true, true, true, true, true, true, true, true, false, false]) (r := 2) (by kernel_rfl) (InvM w B T) ?_ ?_ 22 [2, 6, 7, 8, 9, 13, 17, 21, 25, 29, 33, 34, 37, 40, 41, 42, 46, 50, 54, 58, 61, 64] _ W1 (by decide) (fun i hi => hi) rfl (by kernel_rfl) (rel_of (by kernel_rfl)) HI
  · intro i hi k V hV
    simp only [List.mem_cons, List.not_mem_nil, or_false] at hi
    rcases hi with rfl | rfl | rfl | rfl | rfl | rfl | rfl | rfl | rfl | rfl | rfl | rfl | rfl | rfl | rfl | rfl | rfl | rfl | rfl | rfl | rfl | rfl
    · obtain ⟨V', hr, hI⟩ := inv_put hBw hV cs (by omega) 1 (by decide) HT0.out
      exact wpOp_skip rfl rfl (insert_exec _ (.tmp 22) (.tmp 23) (.const (.int .i64 1)) _ rfl a1' _ _ _ e22 e23 rfl V V' hr) ⟨rfl, hI⟩
    · obtain ⟨V', hr, hI⟩ := inv_put hBw hV g1 (by omega) 1 (by decide) HT1.out
      exact wpOp_skip rfl rfl (insert_exec _ (.tmp 22) (.tmp 26) (.const (.int .i64 1)) _ rfl a1' _ _ _ e22 e26 rfl V V' hr) ⟨rfl, hI⟩
    · obtain ⟨V', hr, hI⟩ := inv_put hBw hV ⟨#[91, 93]⟩ (by decide) 1 (by decide) HT2.out
      exact wpOp_skip rfl rfl (insert_exec _ (.tmp 22) (.const (.string ⟨#[91, 93]⟩)) (.const (.int .i64 1)) _ rfl a1' _ _ _ e22 rfl rfl V V' hr) ⟨rfl, hI⟩
    · obtain ⟨V', hr, hI⟩ := inv_put hBw hV ⟨#[91, 32, 93]⟩ (by decide) 1 (by decide) HT3.out
      exact wpOp_skip rfl rfl (insert_exec _ (.tmp 22) (.const (.string ⟨#[91, 32, 93]⟩)) (.const (.int .i64 1)) _ rfl a1' _ _ _ e22 rfl rfl V V' hr) ⟨rfl, hI⟩
    · obtain ⟨V', hr, hI⟩ := inv_put hBw hV ⟨#[123, 125]⟩ (by decide) 1 (by decide) HT4.out
      exact wpOp_skip rfl rfl (insert_exec _ (.tmp 22) (.const (.string ⟨#[123, 125]⟩)) (.const (.int .i64 1)) _ rfl a1' _ _ _ e22 rfl rfl V V' hr) ⟨rfl, hI⟩
    · obtain ⟨V', hr, hI⟩ := inv_put hBw hV g3 (by omega) 2 (by decide) HT5.out
      exact wpOp_skip rfl rfl (insert_exec _ (.tmp 22) (.tmp 29) (.const (.int .i64 2)) _ rfl a1' _ _ _ e22 e29 rfl V V' hr) ⟨rfl, hI⟩
    · obtain ⟨V', hr, hI⟩ := inv_put hBw hV g5 (by omega) 3 (by decide) HT6.out
      exact wpOp_skip rfl rfl (insert_exec _ (.tmp 22) (.tmp 32) (.const (.int .i64 3)) _ rfl a1' _ _ _ e22 e32 rfl V V' hr) ⟨rfl, hI⟩
    · obtain ⟨V', hr, hI⟩ := inv_put hBw hV g7 (by omega) 3 (by decide) HT7.out
      exact wpOp_skip rfl rfl (insert_exec _ (.tmp 22) (.tmp 35) (.const (.int .i64 3)) _ rfl a1' _ _ _ e22 e35 rfl V V' hr) ⟨rfl, hI⟩
    · obtain ⟨V', hr, hI⟩ := inv_put hBw hV g8 (by omega) 3 (by decide) HT8.out
      exact wpOp_skip rfl rfl (insert_exec _ (.tmp 22) (.tmp 38) (.const (.int .i64 3)) _ rfl a1' _ _ _ e22 e38 rfl V V' hr) ⟨rfl, hI⟩
    · obtain ⟨V', hr, hI⟩ := inv_put hBw hV g9 (by omega) 5 (by decide) HT9.out
      exact wpOp_skip rfl rfl (insert_exec _ (.tmp 22) (.tmp 41) (.const (.int .i64 5)) _ rfl a1' _ _ _ e22 e41 rfl V V' hr) ⟨rfl, hI⟩
    · obtain ⟨V', hr, hI⟩ := inv_put hBw hV g11 (by omega) 4 (by decide) HT10.out
      exact wpOp_skip rfl rfl (insert_exec _ (.tmp 22) (.tmp 44) (.const (.int .i64 4)) _ rfl a1' _ _ _ e22 e44 rfl V V' hr) ⟨rfl, hI⟩
    · obtain ⟨V', hr, hI⟩ := inv_put hBw hV ⟨#[91, 91, 93, 44, 32, 123, 125, 93]⟩ (by decide) 3 (by decide) HT11.out
      exact wpOp_skip rfl rfl (insert_exec _ (.tmp 22) (.const (.string ⟨#[91, 91, 93, 44, 32, 123, 125, 93]⟩)) (.const (.int .i64 3)) _ rfl a1' _ _ _ e22 rfl rfl V V' hr) ⟨rfl, hI⟩
    · obtain ⟨V', hr, hI⟩ := inv_put hBw hV g12 (by omega) 1 (by decide) HT12.out
      exact wpOp_skip rfl rfl (insert_exec _ (.tmp 22) (.tmp 46) (.const (.int .i64 1)) _ rfl a1' _ _ _ e22 e46 rfl V V' hr) ⟨rfl, hI⟩
    · obtain ⟨V', hr, hI⟩ := inv_put hBw hV g13 (by omega) 1 (by decide) HT13.out
      exact wpOp_skip rfl rfl (insert_exec _ (.tmp 22) (.tmp 48) (.const (.int .i64 1)) _ rfl a1' _ _ _ e22 e48 rfl V V' hr) ⟨rfl, hI⟩
    · obtain ⟨V', hr, hI⟩ := inv_put hBw hV ⟨#[33, 116]⟩ (by decide) 1 (by decide) HT14.out
      exact wpOp_skip rfl rfl (insert_exec _ (.tmp 22) (.const (.string ⟨#[33, 116]⟩)) (.const (.int .i64 1)) _ rfl a1' _ _ _ e22 rfl rfl V V' hr) ⟨rfl, hI⟩
    · obtain ⟨V', hr, hI⟩ := inv_put hBw hV ⟨#[38, 120, 32, 33, 33, 115, 116, 114]⟩ (by decide) 1 (by decide) HT15.out
      exact wpOp_skip rfl rfl (insert_exec _ (.tmp 22) (.const (.string ⟨#[38, 120, 32, 33, 33, 115, 116, 114]⟩)) (.const (.int .i64 1)) _ rfl a1' _ _ _ e22 rfl rfl V V' hr) ⟨rfl, hI⟩
    · obtain ⟨V', hr, hI⟩ := inv_put hBw hV g15 (by omega) 3 (by decide) HT16.out
      exact wpOp_skip rfl rfl (insert_exec _ (.tmp 22) (.tmp 51) (.const (.int .i64 3)) _ rfl a1' _ _ _ e22 e51 rfl V V' hr) ⟨rfl, hI⟩
    · obtain ⟨V', hr, hI⟩ := inv_put hBw hV g17 (by omega) 3 (by decide) HT17.out
      exact wpOp_skip rfl rfl (insert_exec _ (.tmp 22) (.tmp 54) (.const (.int .i64 3)) _ rfl a1' _ _ _ e22 e54 rfl V V' hr) ⟨rfl, hI⟩
    · obtain ⟨V', hr, hI⟩ := inv_put hBw hV g19 (by omega) 2 (by decide) HT18.out
      exact wpOp_skip rfl rfl (insert_exec _ (.tmp 22) (.tmp 57) (.const (.int .i64 2)) _ rfl a1' _ _ _ e22 e57 rfl V V' hr) ⟨rfl, hI⟩
    · obtain ⟨V', hr, hI⟩ := inv_put hBw hV g21 (by omega) 1 (by decide) HT19.out
      exact wpOp_skip rfl rfl (insert_exec _ (.tmp 22) (.tmp 60) (.const (.int .i64 1)) _ rfl a1' _ _ _ e22 e60 rfl V V' hr) ⟨rfl, hI⟩
    · obtain ⟨V', hr, hI⟩ := inv_put hBw hV g22 (by omega) 1 (by decide) HT20.out
      exact wpOp_skip rfl rfl (insert_exec _ (.tmp 22) (.tmp 62) (.const (.int .i64 1)) _ rfl a1' _ _ _ e22 e62 rfl V V' hr) ⟨rfl, hI⟩
    · obtain ⟨V', hr, hI⟩ := inv_put hBw hV g23 (by omega) 1 (by decide) HT21.out
      exact wpOp_skip rfl rfl (insert_exec _ (.tmp 22) (.tmp 64) (.const (.int .i64 1)) _ rfl a1' _ _ _ e22 e64 rfl V V' hr) ⟨rfl, hI⟩
  · intro V hV
    obtain ⟨n, D, hn, ho, ha, hb⟩ := hV
    obtain ⟨V', hr, hrg, hb'⟩ := run_rangeSI ho
    refine gate_one (i := 65) (by kernel_rfl) ?_
    refine wpOp_value (v := .map (some B)) (w' := V) rfl rfl (move_exec _ (.tmp 22) rfl _ _ e22 V) ⟨fun _ => trivial, ?_⟩
    refine gate_one (i := 66) (by kernel_rfl) ?_
    refine wpOp_value (v := .pointer (some ⟨V.heap.size, 0, none⟩)) (w' := V') rfl rfl (range_exec _ (.tmp 65) _ rfl _ (.map (some B)) _ (by simp [evp_same, evp_ne, szp, hsz1]) V V' hr) ⟨fun _ => trivial, ?_⟩
    refine gate_gen fun a2 hA0 => ?_
    have hA2 : a2 = ((a1'.put (some 65) (.map (some B))).put (some 66) (.pointer (some ⟨V.heap.size, 0, none⟩))) := hA0
    clear hA0
    refine gate_done (by kernel_rfl) ?_ _
    obtain ⟨g, hg⟩ : ∃ g, V.heap.size = g := ⟨_, rfl⟩
    have hgw : w.heap.size ≤ g := by rw [← hg]; exact hb.size
    rw [hg] at hrg hA2
    have HRG := Lib.hid hrg
    have HB0 := Lib.hid (below_step hb hb')
    have HAL := Lib.hid ha
    clear hr hrg hb hb' ho ha hg
    subst hA2 hA1 hA
    clear e5 hsz hsz1 e22 e23 e26 e29 e32 e35 e38 e41 e44 e46 e48 e51 e54 e57 e60 e62 e64 HI
    clear h_g0 z_g0 h_g1 z_g1 h_g2 z_g2 h_g3 z_g3 h_g4 z_g4 h_g5 z_g5 h_g6 z_g6 h_g7 z_g7 h_g8 z_g8 h_g9 z_g9 h_g10 z_g10 h_g11 z_g11 h_g12 z_g12 h_g13 z_g13 h_g14 z_g14 h_g15 z_g15 h_g16 z_g16 h_g17 z_g17 h_g18 z_g18 h_g19 z_g19 h_g20 z_g20 h_g21 z_g21 h_g22 z_g22 h_g23 z_g23 HT0 HT1 HT2 HT3 HT4 HT5 HT6 HT7 HT8 HT9 HT10 HT11 HT12 HT13 HT14 HT15 HT16 HT17 HT18 HT19 HT20 HT21
    go_wp2_with fail
    simp only [Act.put, List.setIfInBounds_toArray, List.set_cons_zero, List.set_cons_succ]
    go_loopw [4] (fun r W => r = .bool false ∧ ∃ cnt : Nat, Hid (RngSI W B g n D cnt ∧ Below w.heap.size w W)) (fun _ W => W.rangeLeft B g)
    case atStart => exact ⟨rfl, _, HRG.out, HB0.out⟩
    case round =>
      obtain ⟨rfl, cnt, HK⟩ := hrel
      obtain ⟨W, hW⟩ : ∃ x, x = wr := ⟨_, rfl⟩
      subst hW
      have HRK := Lib.hid HK.out.1
      have HBK := Lib.hid HK.out.2
      clear HK
      go_upto_region 8 with (at_next; refine next_forms rfl (.tmp 66) rfl B g n D cnt T a1 rfl HRK HAL HTF ?_ (fun x' c W3 l HF hxs hen => ?_))
      · clear HRK HAL HTF HRG HB0
        have hcs := HCS.out
        obtain ⟨b0, h_b0⟩ : ∃ u, (⟨#[91]⟩ : ByteArray) ++ cs = u := ⟨_, rfl⟩
        have b_b0 : byt b0 = [91, x] := by rw [← h_b0, byt_append, hcs]; rfl
        have z_b0 : b0.size ≤ 2 := by rw [← byt_len, b_b0]; exact Nat.le_refl _
        obtain ⟨b1, h_b1⟩ : ∃ u, b0 ++ (⟨#[44, 93]⟩ : ByteArray) = u := ⟨_, rfl⟩
        have b_b1 : byt b1 = [91, x, 44, 93] := by rw [← h_b1, byt_append, b_b0]; rfl
        have z_b1 : b1.size ≤ 4 := by rw [← byt_len, b_b1]; exact Nat.le_refl _
        obtain ⟨b2, h_b2⟩ : ∃ u, (⟨#[91, 44]⟩ : ByteArray) ++ cs = u := ⟨_, rfl⟩
        have b_b2 : byt b2 = [91, 44, x] := by rw [← h_b2, byt_append, hcs]; rfl
        have z_b2 : b2.size ≤ 3 := by rw [← byt_len, b_b2]; exact Nat.le_refl _
        obtain ⟨b3, h_b3⟩ : ∃ u, b2 ++ (⟨#[93]⟩ : ByteArray) = u := ⟨_, rfl⟩
        have b_b3 : byt b3 = [91, 44, x, 93] := by rw [← h_b3, byt_append, b_b2]; rfl
        have z_b3 : b3.size ≤ 4 := by rw [← byt_len, b_b3]; exact Nat.le_refl _
        obtain ⟨b4, h_b4⟩ : ∃ u, b0 ++ (⟨#[32, 98, 93, 93]⟩ : ByteArray) = u := ⟨_, rfl⟩
        have b_b4 : byt b4 = [91, x, 32, 98, 93, 93] := by rw [← h_b4, byt_append, b_b0]; rfl
        have z_b4 : b4.size ≤ 6 := by rw [← byt_len, b_b4]; exact Nat.le_refl _
        obtain ⟨b5, h_b5⟩ : ∃ u, (⟨#[123]⟩ : ByteArray) ++ cs = u := ⟨_, rfl⟩
        have b_b5 : byt b5 = [123, x] := by rw [← h_b5, byt_append, hcs]; rfl
        have z_b5 : b5.size ≤ 2 := by rw [← byt_len, b_b5]; exact Nat.le_refl _
        obtain ⟨b6, h_b6⟩ : ∃ u, b5 ++ (⟨#[125]⟩ : ByteArray) = u := ⟨_, rfl⟩
        have b_b6 : byt b6 = [123, x, 125] := by rw [← h_b6, byt_append, b_b5]; rfl
        have z_b6 : b6.size ≤ 3 := by rw [← byt_len, b_b6]; exact Nat.le_refl _
        obtain ⟨b7, h_b7⟩ : ∃ u, b5 ++ (⟨#[58, 49, 125]⟩ : ByteArray) = u := ⟨_, rfl⟩
        have b_b7 : byt b7 = [123, x, 58, 49, 125] := by rw [← h_b7, byt_append, b_b5]; rfl
        have z_b7 : b7.size ≤ 5 := by rw [← byt_len, b_b7]; exact Nat.le_refl _
        obtain ⟨b8, h_b8⟩ : ∃ u, (⟨#[123, 91]⟩ : ByteArray) ++ cs = u := ⟨_, rfl⟩
        have b_b8 : byt b8 = [123, 91, x] := by rw [← h_b8, byt_append, hcs]; rfl
        have z_b8 : b8.size ≤ 3 := by rw [← byt_len, b_b8]; exact Nat.le_refl _
        obtain ⟨b9, h_b9⟩ : ∃ u, b8 ++ (⟨#[93, 58, 32, 49, 125]⟩ : ByteArray) = u := ⟨_, rfl⟩
        have b_b9 : byt b9 = [123, 91, x, 93, 58, 32, 49, 125] := by rw [← h_b9, byt_append, b_b8]; rfl
        have z_b9 : b9.size ≤ 8 := by rw [← byt_len, b_b9]; exact Nat.le_refl _
        obtain ⟨b10, h_b10⟩ : ∃ u, b5 ++ (⟨#[58, 32, 49, 44, 125]⟩ : ByteArray) = u := ⟨_, rfl⟩
        have b_b10 : byt b10 = [123, x, 58, 32, 49, 44, 125] := by rw [← h_b10, byt_append, b_b5]; rfl
        have z_b10 : b10.size ≤ 7 := by rw [← byt_len, b_b10]; exact Nat.le_refl _
        obtain ⟨b11, h_b11⟩ : ∃ u, (⟨#[123, 38, 120, 32]⟩ : ByteArray) ++ cs = u := ⟨_, rfl⟩
        have b_b11 : byt b11 = [123, 38, 120, 32, x] := by rw [← h_b11, byt_append, hcs]; rfl
        have z_b11 : b11.size ≤ 5 := by rw [← byt_len, b_b11]; exact Nat.le_refl _
        obtain ⟨b12, h_b12⟩ : ∃ u, b11 ++ (⟨#[58, 32, 49, 125]⟩ : ByteArray) = u := ⟨_, rfl⟩
        have b_b12 : byt b12 = [123, 38, 120, 32, x, 58, 32, 49, 125] := by rw [← h_b12, byt_append, b_b11]; rfl
        have z_b12 : b12.size ≤ 9 := by rw [← byt_len, b_b12]; exact Nat.le_refl _
        obtain ⟨b13, h_b13⟩ : ∃ u, (⟨#[123, 42]⟩ : ByteArray) ++ cs = u := ⟨_, rfl⟩
        have b_b13 : byt b13 = [123, 42, x] := by rw [← h_b13, byt_append, hcs]; rfl
        have z_b13 : b13.size ≤ 3 := by rw [← byt_len, b_b13]; exact Nat.le_refl _
        obtain ⟨b14, h_b14⟩ : ∃ u, b13 ++ (⟨#[58, 32, 49, 125]⟩ : ByteArray) = u := ⟨_, rfl⟩
        have b_b14 : byt b14 = [123, 42, x, 58, 32, 49, 125] := by rw [← h_b14, byt_append, b_b13]; rfl
        have z_b14 : b14.size ≤ 7 := by rw [← byt_len, b_b14]; exact Nat.le_refl _
        obtain ⟨b15, h_b15⟩ : ∃ u, (⟨#[38, 120, 32, 42]⟩ : ByteArray) ++ cs = u := ⟨_, rfl⟩
        have b_b15 : byt b15 = [38, 120, 32, 42, x] := by rw [← h_b15, byt_append, hcs]; rfl
        have z_b15 : b15.size ≤ 5 := by rw [← byt_len, b_b15]; exact Nat.le_refl _
        obtain ⟨b16, h_b16⟩ : ∃ u, (⟨#[38, 120, 32, 38, 121, 32]⟩ : ByteArray) ++ cs = u := ⟨_, rfl⟩
        have b_b16 : byt b16 = [38, 120, 32, 38, 121, 32, x] := by rw [← h_b16, byt_append, hcs]; rfl
        have z_b16 : b16.size ≤ 7 := by rw [← byt_len, b_b16]; exact Nat.le_refl _
        obtain ⟨b17, h_b17⟩ : ∃ u, (⟨#[39]⟩ : ByteArray) ++ cs = u := ⟨_, rfl⟩
        have b_b17 : byt b17 = [39, x] := by rw [← h_b17, byt_append, hcs]; rfl
        have z_b17 : b17.size ≤ 2 := by rw [← byt_len, b_b17]; exact Nat.le_refl _
        obtain ⟨b18, h_b18⟩ : ∃ u, (⟨#[124, 32]⟩ : ByteArray) ++ cs = u := ⟨_, rfl⟩
        have b_b18 : byt b18 = [124, 32, x] := by rw [← h_b18, byt_append, hcs]; rfl
        have z_b18 : b18.size ≤ 3 := by rw [← byt_len, b_b18]; exact Nat.le_refl _
        obtain ⟨b19, h_b19⟩ : ∃ u, (⟨#[35, 32]⟩ : ByteArray) ++ cs = u := ⟨_, rfl⟩
        have b_b19 : byt b19 = [35, 32, x] := by rw [← h_b19, byt_append, hcs]; rfl
        have z_b19 : b19.size ≤ 3 := by rw [← byt_len, b_b19]; exact Nat.le_refl _
        obtain ⟨b20, h_b20⟩ : ∃ u, cs ++ (⟨#[32, 35, 32, 99]⟩ : ByteArray) = u := ⟨_, rfl⟩
        have b_b20 : byt b20 = [x, 32, 35, 32, 99] := by rw [← h_b20, byt_append, hcs]; rfl
        have z_b20 : b20.size ≤ 5 := by rw [← byt_len, b_b20]; exact Nat.le_refl _
        obtain ⟨b21, h_b21⟩ : ∃ u, cs ++ (⟨#[32]⟩ : ByteArray) = u := ⟨_, rfl⟩
        have b_b21 : byt b21 = [x, 32] := by rw [← h_b21, byt_append, hcs]; rfl
        have z_b21 : b21.size ≤ 2 := by rw [← byt_len, b_b21]; exact Nat.le_refl _
        obtain ⟨b22, h_b22⟩ : ∃ u, (⟨#[45, 32]⟩ : ByteArray) ++ cs = u := ⟨_, rfl⟩
        have b_b22 : byt b22 = [45, 32, x] := by rw [← h_b22, byt_append, hcs]; rfl
        have z_b22 : b22.size ≤ 3 := by rw [← byt_len, b_b22]; exact Nat.le_refl _
        obtain ⟨b23, h_b23⟩ : ∃ u, (⟨#[63, 32]⟩ : ByteArray) ++ cs = u := ⟨_, rfl⟩
        have b_b23 : byt b23 = [63, 32, x] := by rw [← h_b23, byt_append, hcs]; rfl
        have z_b23 : b23.size ≤ 3 := by rw [← byt_len, b_b23]; exact Nat.le_refl _
        obtain ⟨b24, h_b24⟩ : ∃ u, cs ++ (⟨#[58, 32, 98]⟩ : ByteArray) = u := ⟨_, rfl⟩
        have b_b24 : byt b24 = [x, 58, 32, 98] := by rw [← h_b24, byt_append, hcs]; rfl
        have z_b24 : b24.size ≤ 4 := by rw [← byt_len, b_b24]; exact Nat.le_refl _
        obtain ⟨b25, h_b25⟩ : ∃ u, b0 ++ (⟨#[125]⟩ : ByteArray) = u := ⟨_, rfl⟩
        have b_b25 : byt b25 = [91, x, 125] := by rw [← h_b25, byt_append, b_b0]; rfl
        have z_b25 : b25.size ≤ 3 := by rw [← byt_len, b_b25]; exact Nat.le_refl _
        obtain ⟨b26, h_b26⟩ : ∃ u, (⟨#[37]⟩ : ByteArray) ++ cs = u := ⟨_, rfl⟩
        have b_b26 : byt b26 = [37, x] := by rw [← h_b26, byt_append, hcs]; rfl
        have z_b26 : b26.size ≤ 2 := by rw [← byt_len, b_b26]; exact Nat.le_refl _
        obtain ⟨LL, hLL⟩ : ∃ LL : List ByteArray, LL = [⟨#[]⟩, ⟨#[32]⟩, ⟨#[91]⟩, ⟨#[93]⟩, ⟨#[123]⟩, b0, b1, b3, b4, b6, b7, ⟨#[123, 58, 32, 49, 125]⟩, b9, b10, b12, b14, b15, ⟨#[42]⟩, b16, b17, b18, b19, b20, b21, b22, b23, b24, ⟨#[91, 97, 58, 32, 98, 93]⟩, b25, b26, ⟨#[64]⟩] := ⟨_, rfl⟩
        have hLb : LL.map byt = fmBad x := by
          rw [hLL]
          simp only [List.map_cons, List.map_nil, b_b0, b_b1, b_b3, b_b4, b_b6, b_b7, b_b9, b_b10, b_b12, b_b14, b_b15, b_b16, b_b17, b_b18, b_b19, b_b20, b_b21, b_b22, b_b23, b_b24, b_b25, b_b26]
          rfl
        have HLF : Hid (∀ j, j < 31 → ∃ d : ByteArray, LL[j]? = some d ∧ d.size ≤ 1000 ∧ inParse (byt d) a1 = .error 2) := by
          intro j hj
          have hlen : LL.length = 31 := by rw [hLL]; rfl
          have hm : byt (LL[j]'(by omega)) ∈ fmBad x := by rw [← hLb]; exact List.mem_map_of_mem (List.getElem_mem _)
          refine ⟨LL[j]'(by omega), List.getElem?_eq_getElem (by omega), ?_, errB_eq (List.all_eq_true.1 HBAD.out _ hm)⟩
          rw [← byt_len]
          exact bad_len x _ hm
        obtain ⟨V0, hV0⟩ : ∃ V, W.alloc (.cells #[.string ⟨#[]⟩, .string ⟨#[32]⟩, .string ⟨#[91]⟩, .string ⟨#[93]⟩, .string ⟨#[123]⟩, .string b0, .string b1, .string b3, .string b4, .string b6, .string b7, .string ⟨#[123, 58, 32, 49, 125]⟩, .string b9, .string b10, .string b12, .string b14, .string b15, .string ⟨#[42]⟩, .string b16, .string b17, .string b18, .string b19, .string b20, .string b21, .string b22, .string b23, .string b24, .string ⟨#[91, 97, 58, 32, 98, 93]⟩, .string b25, .string b26, .string ⟨#[64]⟩] 9) = V := ⟨_, rfl⟩
        obtain ⟨gv, hgv⟩ : ∃ gv, W.heap.size = gv := ⟨_, rfl⟩
        have HV0 : Hid (Below w.heap.size w V0 ∧ ∀ k d, LL[k]? = some d → V0.cell? ⟨gv, k, none⟩ = some (.string d)) := by
          refine ⟨by rw [← hV0]; exact HBK.out.alloc HBK.out.size _, fun k d hd => ?_⟩
          rw [← hV0, ← hgv, World.cell?_alloc_mark]
          have : (#[.string ⟨#[]⟩, .string ⟨#[32]⟩, .string ⟨#[91]⟩, .string ⟨#[93]⟩, .string ⟨#[123]⟩, .string b0, .string b1, .string b3, .string b4, .string b6, .string b7, .string ⟨#[123, 58, 32, 49, 125]⟩, .string b9, .string b10, .string b12, .string b14, .string b15, .string ⟨#[42]⟩, .string b16, .string b17, .string b18, .string b19, .string b20, .string b21, .string b22, .string b23, .string b24, .string ⟨#[91, 97, 58, 32, 98, 93]⟩, .string b25, .string b26, .string ⟨#[64]⟩] : Array Value) = (LL.map Value.string).toArray := by rw [hLL]; rfl
          rw [this]; simp [hd]
        clear b_b0 b_b1 b_b2 b_b3 b_b4 b_b5 b_b6 b_b7 b_b8 b_b9 b_b10 b_b11 b_b12 b_b13 b_b14 b_b15 b_b16 b_b17 b_b18 b_b19 b_b20 b_b21 b_b22 b_b23 b_b24 b_b25 b_b26 hcs hLL hLb
        go_wp2_with fail
        clear hV0
        clear h_b0 z_b0 h_b1 z_b1 h_b2 z_b2 h_b3 z_b3 h_b4 z_b4 h_b5 z_b5 h_b6 z_b6 h_b7 z_b7 h_b8 z_b8 h_b9 z_b9 h_b10 z_b10 h_b11 z_b11 h_b12 z_b12 h_b13 z_b13 h_b14 z_b14 h_b15 z_b15 h_b16 z_b16 h_b17 z_b17 h_b18 z_b18 h_b19 z_b19 h_b20 z_b20 h_b21 z_b21 h_b22 z_b22 h_b23 z_b23 h_b24 z_b24 h_b25 z_b25 h_b26 z_b26
        go_loopw [4, 142] (fun r i W => ∃ j : Nat, j ≤ 31 ∧ r = .bool false ∧ i = .int .i64 (j : Int) ∧ Hid (Below w.heap.size w W ∧ ∀ k d, LL[k]? = some d → W.cell? ⟨gv, k, none⟩ = some (.string d))) (fun _ i _ => 31 - (intOf i).toNat)
        case atStart => exact ⟨0, by omega, rfl, rfl, HV0⟩
        case round =>
          obtain ⟨j, hj, rfl, rfl, HK⟩ := hrel
          obtain ⟨W, hW⟩ : ∃ x, x = wr := ⟨_, rfl⟩
          subst hW
          by_cases hlt : j < 31
          · obtain ⟨d, hd, hds, hpe⟩ := HLF.out j hlt
            have dj : (j : Int) < 31 := by omega
            have hc := HK.out.2 j d hd
            have HP := Lib.hid (parse_at (Below.refl _ _) (HS.out.below HK.out.1) (HM.out.below HK.out.1) d (by omega) a1 _ hpe)
            have HW := Lib.hid HK.out.1
            clear hpe hd
            go_wp2_with fail
            refine HP.out.mono ?_
            rintro e W2 ⟨rfl, hb2, _⟩
            have HB2 := Lib.hid hb2
            clear hb2 HP hc
            go_wp2_with fail
            go_roundw
            case rel =>
              first
              | exact ⟨j + 1, by omega, rfl, by go_num, below_step HK.out.1 HB2.out, fun k d hd => cell_keep HB2.out (HK.out.2 k d hd)⟩
              | (repeat apply Exists.intro
                 exact ⟨⟨j + 1, by omega, rfl, by go_num, below_step HK.out.1 HB2.out, fun k d hd => cell_keep HB2.out (HK.out.2 k d hd)⟩, rfl⟩)
            case measure => simp [intOf]; omega
          · obtain rfl : j = 31 := by omega
            have HBK := Lib.hid HK.out.1
            clear HK HV0 HLF
            go_upto_region 15 with fail
            have hcs := HCS.out
            obtain ⟨t0, h_t0⟩ : ∃ u, cs ++ (⟨#[10]⟩ : ByteArray) = u := ⟨_, rfl⟩
            have b_t0 : byt t0 = [x, 10] := by rw [← h_t0, byt_append, hcs]; rfl
            have z_t0 : t0.size ≤ 2 := by rw [← byt_len, b_t0]; exact Nat.le_refl _
            obtain ⟨t1, h_t1⟩ : ∃ u, cs ++ (⟨#[13, 10]⟩ : ByteArray) = u := ⟨_, rfl⟩
            have b_t1 : byt t1 = [x, 13, 10] := by rw [← h_t1, byt_append, hcs]; rfl
            have z_t1 : t1.size ≤ 3 := by rw [← byt_len, b_t1]; exact Nat.le_refl _
            obtain ⟨t2, h_t2⟩ : ∃ u, (⟨#[239, 187, 191]⟩ : ByteArray) ++ cs = u := ⟨_, rfl⟩
            have b_t2 : byt t2 = [239, 187, 191, x] := by rw [← h_t2, byt_append, hcs]; rfl
            have z_t2 : t2.size ≤ 4 := by rw [← byt_len, b_t2]; exact Nat.le_refl _
            obtain ⟨LL, hLL⟩ : ∃ LL : List ByteArray, LL = [t0, t1, ⟨#[0]⟩, t2, ⟨#[255]⟩] := ⟨_, rfl⟩
            have hLb : LL.map byt = fmTxt x := by
              rw [hLL]
              simp only [List.map_cons, List.map_nil, b_t0, b_t1, b_t2]
              rfl
            have HLF : Hid (∀ j, j < 5 → ∃ d : ByteArray, LL[j]? = some d ∧ d.size ≤ 1000 ∧ inParse (byt d) a1 = .error 1) := by
              intro j hj
              have hlen : LL.length = 5 := by rw [hLL]; rfl
              have hm : byt (LL[j]'(by omega)) ∈ fmTxt x := by rw [← hLb]; exact List.mem_map_of_mem (List.getElem_mem _)
              refine ⟨LL[j]'(by omega), List.getElem?_eq_getElem (by omega), ?_, errB_eq (List.all_eq_true.1 HTXT.out _ hm)⟩
              rw [← byt_len]
              exact txt_len x _ hm
            obtain ⟨V0, hV0⟩ : ∃ V, W.alloc (.cells #[.string t0, .string t1, .string ⟨#[0]⟩, .string t2, .string ⟨#[255]⟩] 9) = V := ⟨_, rfl⟩
            obtain ⟨gv, hgv⟩ : ∃ gv, W.heap.size = gv := ⟨_, rfl⟩
            have HV0 : Hid (Below w.heap.size w V0 ∧ ∀ k d, LL[k]? = some d → V0.cell? ⟨gv, k, none⟩ = some (.string d)) := by
              refine ⟨by rw [← hV0]; exact HBK.out.alloc HBK.out.size _, fun k d hd => ?_⟩
              rw [← hV0, ← hgv, World.cell?_alloc_mark]
              have : (#[.string t0, .string t1, .string ⟨#[0]⟩, .string t2, .string ⟨#[255]⟩] : Array Value) = (LL.map Value.string).toArray := by rw [hLL]; rfl
              rw [this]; simp [hd]
            clear b_t0 b_t1 b_t2 hcs hLL hLb
            go_wp2_with fail
            clear hV0
            clear h_t0 z_t0 h_t1 z_t1 h_t2 z_t2
            go_loopw [4, 168] (fun r i W => ∃ j : Nat, j ≤ 5 ∧ r = .bool false ∧ i = .int .i64 (j : Int) ∧ Hid (Below w.heap.size w W ∧ ∀ k d, LL[k]? = some d → W.cell? ⟨gv, k, none⟩ = some (.string d))) (fun _ i _ => 5 - (intOf i).toNat)
            case atStart => exact ⟨0, by omega, rfl, rfl, HV0⟩
            case round =>
              obtain ⟨j, hj, rfl, rfl, HK⟩ := hrel
              obtain ⟨W, hW⟩ : ∃ x, x = wr := ⟨_, rfl⟩
              subst hW
              by_cases hlt : j < 5
              · obtain ⟨d, hd, hds, hpe⟩ := HLF.out j hlt
                have dj : (j : Int) < 5 := by omega
                have hc := HK.out.2 j d hd
                have HP := Lib.hid (parse_at (Below.refl _ _) (HS.out.below HK.out.1) (HM.out.below HK.out.1) d (by omega) a1 _ hpe)
                have HW := Lib.hid HK.out.1
                clear hpe hd
                go_wp2_with fail
                refine HP.out.mono ?_
                rintro e W2 ⟨rfl, hb2, _⟩
                have HB2 := Lib.hid hb2
                clear hb2 HP hc
                go_wp2_with fail
                go_roundw
                case rel =>
                  first
                  | exact ⟨j + 1, by omega, rfl, by go_num, below_step HK.out.1 HB2.out, fun k d hd => cell_keep HB2.out (HK.out.2 k d hd)⟩
                  | (repeat apply Exists.intro
                     exact ⟨⟨j + 1, by omega, rfl, by go_num, below_step HK.out.1 HB2.out, fun k d hd => cell_keep HB2.out (HK.out.2 k d hd)⟩, rfl⟩)
                case measure => simp [intOf]; omega
              · obtain rfl : j = 5 := by omega
                have HBK := Lib.hid HK.out.1
                clear HK HV0 HLF
                go_wp2_with (go_at_call 13; refine (wakes_at HBK.out HS.out HM.out).mono ?_; rintro e w9 ⟨rfl, hb9⟩)
                go_ret
                exact ⟨rfl, hb9⟩
      · obtain ⟨hok, hc, h0, ⟨cnt', hrg', hlt'⟩, hgr⟩ := HF.out
        subst hc
        have HB3 : Hid (Below w.heap.size w W3) := HBK.out.grown hgr HBK.out.size (fun b hb => by injection hb with hb; omega)
        have HRG3 := Lib.hid hrg'
        have HLT := Lib.hid (And.intro hlt' HRK.out.left)
        have HP := Lib.hid (parse_at (Below.refl _ _) (HS.out.below HB3.out) (HM.out.below HB3.out) x' (by omega) a1 _ hok)
        clear hrg' hlt' hgr HF hok
        go_wp2_with fail
        refine HP.out.mono ?_
        rintro e W5 ⟨vv, rfl, hL, hb5⟩
        clear HP hen
        have HB5 := Lib.hid hb5
        obtain ⟨g5, cap5, rfl, hc1, hc2, _⟩ := hL.look h0
        clear hL hb5
        go_wp2_with fail
        go_roundw
        case rel =>
          first
          | exact ⟨rfl, cnt', HRG3.out.below HB5.out, below_step HB3.out HB5.out⟩
          | (repeat apply Exists.intro
             exact ⟨⟨rfl, cnt', HRG3.out.below HB5.out, below_step HB3.out HB5.out⟩, rfl⟩)
        case measure => rw [(HRG3.out.below HB5.out).left, HLT.out.2]; exact HLT.out.1


set_option maxRecDepth 100000 in
theorem lifted (os : Os) (started : os.Started) (H : Type) (enc : TypeId × Value → H) :
    ReturnsInHanded {} Tryz.checked os 3 .any (fun w args => (Rows.inlineFormsSpec.pre enc Tryz.prog Tryz.f3 Rows.inlineFormsRow.domain false w args ∧ laidMetH Tryz.prog Rows.inlineFormsRow.laid w) ∧ sizedMet enc Tryz.prog Tryz.f3 (OpenSpec.ofChange Rows.inlineFormsSpec) false w args)
      (Rows.inlineFormsSpec.post enc Tryz.prog Tryz.f3 false true false false) := by
  refine returns_listed (C := Tryz.checked) (X := fun w _ => laidMetH Tryz.prog Rows.inlineFormsRow.laid w) (fun _ _ _ hh h => h.of_heap hh) own started (by kernel_rfl) Tryz.func3
    (ChangeSpec.witness_shaped (enc := enc) (C := Tryz.checked) (os := os) (X := fun w _ => laidMetH Tryz.prog Rows.inlineFormsRow.laid w) false (World.laidAll Tryz.prog os Rows.inlineFormsRow.laid) #[.int .i64 0, .bool false] 8 (World.laidAll_os _ _ _)
      (World.shaped_of_ZipB (by kernel_rfl) (by kernel_rfl)) (by kernel_rfl) (by kernel_rfl) (by kernel_rfl)
      (by rw [MakeChecks.laidMetH_plain _ _ _ (by kernel_rfl)]; exact laidMet_laidAll _ (by kernel_rfl) (by kernel_rfl))) ?_
  intro W base args ds gs before hval0 hW hX hsh
  have hval : ∀ (j : Nat) t v, Tryz.f3.params[j]? = some t → args[j]? = some v → Value.okWide Tryz.prog W .any base t v := hval0
  have hW' := hW
  obtain ⟨p, q, hA0, hV, rfl, hfz, hnd⟩ := hW
  have hA : DataW.TrodAll enc Tryz.prog W 0 (fun _ => true) true Tryz.f3.params.toList args.toList ds p := hA0
  rw [Tryz.params3] at hA hval
  obtain ⟨v0, vs0, d0, ds0, p0, q0, hargs, rfl, rfl, h0, r0⟩ := trodAll_cons hA
  obtain ⟨v1, vs1, d1, ds1, p1, q1, rfl, rfl, rfl, h1, r1⟩ := trodAll_cons r0
  obtain ⟨rfl, rfl, rfl⟩ := trodAll_nil r1
  obtain rfl : args = #[v0, v1] := by cases args; simp_all
  obtain ⟨rfl, rfl⟩ := trodVars_none hV
  obtain ⟨a0, rfl, rfl, rfl, w0⟩ := open_int Tryz.underlying3 (hval 0 3 v0 rfl rfl) h0
  obtain ⟨a1, rfl, rfl, rfl⟩ := open_bool Tryz.underlying4 (hval 1 4 v1 rfl rfl) h1
  clear hA0 hval0
  refine (walk a0 a1 W w0 (⟨shorts_in hX (by kernel_rfl) (List.mem_of_getElem? (i := 1) rfl), maxL_shaped hsh⟩)).mono fun e W' ⟨he, bel⟩ => ?_
  subst he
  exact ⟨_, rfl, _, _, _, [], _, [], hW', trodAll_mk1 (shut_bool Tryz.underlying4 _), (trodAll_cons_mk (shut_int Tryz.underlying3 w0) (trodAll_cons_mk (shut_bool Tryz.underlying4 _) trodAll_mk0)), rfl, bel.frame _, fun h => by cases h⟩

theorem over : Rows.inlineFormsRow.holds Tryz.pinned (OpenSpec.ofChange Rows.inlineFormsSpec) :=
  OpenClaim.holds_of_wide 3 Tryz.f3 rfl rfl rfl rfl rfl rfl rfl ⟨rfl, rfl, rfl, rfl, rfl⟩ rfl rfl rfl rfl rfl (by kernel_rfl) Tryz.func3 (by kernel_rfl)
    (of_decide_eq_true (by kernel_rfl)) (by unfold Func.isWrapper; first | (rw [if_pos (by decide +kernel)]; kernel_rfl) | (rw [if_neg (by decide +kernel)]; exact ⟨rfl, rfl⟩))
    (fun os started H enc _ => lifted os started H enc)

theorem proved : Rows.InlineFormsCardSaid :=
  Claim7.holds_tied_plain_at .later [] [.data, .data, .pinned] true (true, "4c36b2f9cd6a1b99684a7d4c76e052a99f27488d72e5643796983d408aa86e83") false over (fun _ h => by cases h) (by kernel_rfl) (fun _ h => by cases h) inlineForms_row_tie rfl ⟨rfl, rfl⟩ (by kernel_rfl) rfl
    (fun f fn hf hfn => by
      obtain rfl : f = 3 := Option.some.inj ((show Tryz.prog.funcNamed Rows.inlineFormsRow.func = some 3 by kernel_rfl).symm.trans hf) |>.symm
      obtain rfl : fn = Tryz.f3 := (Option.some.inj (Tryz.func3.symm.trans hfn)).symm
      exact ⟨by kernel_rfl, fun j t ht => by
        rw [Tryz.params3] at ht
        have hm : t ∈ [3, 4] := by simpa using Array.mem_of_getElem? ht
        have hall : ([3, 4].all fun u => !Tryz.prog.wantsStandIn u) = true := by kernel_rfl
        exact (show Tryz.prog.wantsStandIn t = false by simpa using List.all_eq_true.1 hall t hm)⟩)
    (by kernel_rfl)
#print axioms proved
end Go.Proofs.YtclgahmgoiobaaaGreatDoor.inlineForms
