/-
  Proved: the card of the law 'scholium/scholiumlaw08.SchemaForms' (for every input it returns true, and every argument reads as it did before; the package variables that the row lists are tied to the program's text). No conditions.
-/
import Derived.Test.YtijclnjiibblaaaDoorRows
import Derived.Test.YtijclnjiibblaaaDoorCards
import Derived.Test.YtijclnjiibblaaaDoorTie
import Derived.Test.YtijclnjiibblaaaDoorDoor
import Derived.Test.YtijclnjiibblaaaDoorScNum
import Derived.Test.YtijclnjiibblaaaDoorScRef
import Derived.WalkKit
import Derived.ProofKit
import Derived.OpenShut
import Derived.ShutString
import Derived.ChangeOld
import Derived.Below
import Derived.LaidMore
import Derived.Lay
import Derived.SevenTiedAt
namespace Go.Proofs.YtijclnjiibblaaaDoor.schemaForms
open Go.ChangeShapes Go.WideShapes Go.ChangeAt Go.RowKit
open Go.ChangeMaps (open_string shut_string)
set_option linter.unusedVariables false

theorem own : ownKnob Tryd.prog.godebug = none := by kernel_rfl
theorem laidOut : laidOutB Tryd.prog = true := by kernel_rfl

/-- A slice of integers that came in. -/
def IsRow (k : IntKind) (w : World) (a : Option Addr) (len cap : Nat) (zs : List Int) : Prop :=
  (a = none ∧ len = 0 ∧ cap = 0 ∧ zs = []) ∨
  ∃ x, a = some x ∧ len ≤ cap ∧ cap ≤ maxLen ∧ zs.length = cap ∧ (∀ i, i < zs.length → w.cell? (x.add i) = some (.int k (zs.getD i 0))) ∧ ∀ n ∈ zs, (Lit.int k n).wf = true

def form1 (c : UInt8) : List (List UInt8) := [[110, 117, 108, 108], [78, 117, 108, 108], [78, 85, 76, 76], [126], []]
def form2 (c : UInt8) : List (List UInt8) := [[116, 114, 117, 101], [84, 114, 117, 101], [84, 82, 85, 69], [102, 97, 108, 115, 101], [70, 97, 108, 115, 101], [70, 65, 76, 83, 69]]
def form3 (c : UInt8) : List (List UInt8) := [[c], [45, c], [43, c, c], [48, 111, 55], [48, 120, c, 97, 70]]
def form4 (c : UInt8) : List (List UInt8) := [[c, 46], [46, c], [c, 46, c], [45, c, 101, c], [c, 69, 45, c], [46, c, 101, 43, c], [46, 105, 110, 102], [45, 46, 73, 78, 70], [43, 46, 73, 110, 102], [46, 110, 97, 110], [46, 78, 97, 78], [46, 78, 65, 78]]
def form5 (c : UInt8) : List (List UInt8) := [[110, 85, 76, 76], [116, 82, 117, 101], [121, 101, 115], [110, 111], [111, 110], [48, 111, 56], [48, 120], [48, 111], [45, 48, 120, 49], [43, 48, 111, 49], [c, 95, c], [46], [45], [43], [101, c], [c, 101], [c, 101, 43], [46, 101, c], [45, 46, 110, 97, 110], [46, 105, 78, 102], [105, 110, 102], [110, 97, 110], [c, 46, 46, c], [c, 46, c, 46, c], [32, c], [c, 32]]
theorem forms_all : ∀ n : Fin 10, (form1 (UInt8.ofNat (48 + n.val))).all (fun l => resF l == [33, 33, 110, 117, 108, 108] && decide (l.length ≤ 10)) = true ∧ (form2 (UInt8.ofNat (48 + n.val))).all (fun l => resF l == [33, 33, 98, 111, 111, 108] && decide (l.length ≤ 10)) = true ∧ (form3 (UInt8.ofNat (48 + n.val))).all (fun l => resF l == [33, 33, 105, 110, 116] && decide (l.length ≤ 10)) = true ∧ (form4 (UInt8.ofNat (48 + n.val))).all (fun l => resF l == [33, 33, 102, 108, 111, 97, 116] && decide (l.length ≤ 10)) = true ∧ (form5 (UInt8.ofNat (48 + n.val))).all (fun l => resF l == [33, 33, 115, 116, 114] && decide (l.length ≤ 10)) = true := by decide +kernel
theorem forms_at (ls : List ByteArray) (L : List (List UInt8)) (h : ls.map (fun s => s.data.toList) = L) (R : List UInt8) (hL : L.all (fun l => resF l == R && decide (l.length ≤ 10)) = true) (n : Nat) (hn : L.length = n) :
    ∀ k, k < n → ∃ s, ls[k]? = some s ∧ s.size ≤ 10 ∧ resF s.toList = R := by
  subst hn
  intro k hk
  have hl : ls.length = L.length := by rw [← h, List.length_map]
  have hs : ls[k]? = some (ls[k]'(by omega)) := List.getElem?_eq_getElem (by omega)
  refine ⟨_, hs, ?_⟩
  generalize ls[k]'(by omega) = s at hs ⊢
  have hm : s.data.toList ∈ L := by
    rw [← h]
    exact List.mem_map_of_mem (f := fun s : ByteArray => s.data.toList) (List.mem_of_getElem? hs)
  have := List.all_eq_true.1 hL _ hm
  rw [Bool.and_eq_true, beq_iff_eq, decide_eq_true_eq, ← Lib.toList_data, list_len] at this
  exact ⟨this.2, this.1⟩
theorem dgt_is (k : Nat) (h : k < 10) : (((⟨#[48, 49, 50, 51, 52, 53, 54, 55, 56, 57]⟩ : ByteArray).extract k 10).extract 0 1).toList = [UInt8.ofNat (48 + k)] := by
  have : ∀ k : Fin 10, ((((tenD.drop k.val).take (10 - k.val)).drop 0).take (1 - 0)) = [UInt8.ofNat (48 + k.val)] := by decide +kernel
  rw [list_extract, list_extract, show (⟨#[48, 49, 50, 51, 52, 53, 54, 55, 56, 57]⟩ : ByteArray).toList = tenD from mk_list tenD]
  exact this ⟨k, h⟩
set_option maxHeartbeats 8000000 in
set_option maxRecDepth 100000 in
theorem walk (a0 : Int) (w : World) (w0 : (Lit.int .i64 a0).wf = true) (hT : True) :
    Calls Tryd.prog 7 #[.int .i64 a0] w fun e w' => e = .returned (.bool true) ∧ Below w.heap.size w w' := by
  have ha0 := bounds_i64 w0
  have HBW : Hid (Below w.heap.size w w) := Below.refl _ _
  clear w0 hT
  go_enter Tryd.func7, Tryd.ntmps7
  go_wp2_with fail
  refine (within_nat a0 10 w (by omega) (by omega) (by omega)).mono ?_
  rintro e W0 ⟨j, hj, rfl, rfl⟩
  obtain ⟨d, hd⟩ : ∃ d, ((⟨#[48, 49, 50, 51, 52, 53, 54, 55, 56, 57]⟩ : ByteArray).extract j 10).extract 0 1 = d := ⟨_, rfl⟩
  obtain ⟨c, hc⟩ : ∃ c, c = UInt8.ofNat (48 + j) := ⟨_, rfl⟩
  have hdl : d.toList = [c] := by rw [← hd, hc]; exact dgt_is j hj
  have hds : d.size ≤ 10 := by rw [← list_len, hdl]; simp
  obtain ⟨n1, n1e⟩ : ∃ u : ByteArray, (⟨#[45]⟩ : ByteArray) ++ d = u := ⟨_, rfl⟩
  have n1l : n1.toList = [45, c] := by rw [← n1e, list_append, show (⟨#[45]⟩ : ByteArray).toList = [45] from mk_list [45], hdl]; rfl
  have n1s : n1.size ≤ 10 := by rw [← list_len, n1l]; simp
  obtain ⟨n2, n2e⟩ : ∃ u : ByteArray, (⟨#[43]⟩ : ByteArray) ++ d = u := ⟨_, rfl⟩
  have n2l : n2.toList = [43, c] := by rw [← n2e, list_append, show (⟨#[43]⟩ : ByteArray).toList = [43] from mk_list [43], hdl]; rfl
  have n2s : n2.size ≤ 10 := by rw [← list_len, n2l]; simp
  obtain ⟨n3, n3e⟩ : ∃ u : ByteArray, n2 ++ d = u := ⟨_, rfl⟩
  have n3l : n3.toList = [43, c, c] := by rw [← n3e, list_append, n2l, hdl]; rfl
  have n3s : n3.size ≤ 10 := by rw [← list_len, n3l]; simp
  obtain ⟨n4, n4e⟩ : ∃ u : ByteArray, (⟨#[48, 120]⟩ : ByteArray) ++ d = u := ⟨_, rfl⟩
  have n4l : n4.toList = [48, 120, c] := by rw [← n4e, list_append, show (⟨#[48, 120]⟩ : ByteArray).toList = [48, 120] from mk_list [48, 120], hdl]; rfl
  have n4s : n4.size ≤ 10 := by rw [← list_len, n4l]; simp
  obtain ⟨n5, n5e⟩ : ∃ u : ByteArray, n4 ++ (⟨#[97, 70]⟩ : ByteArray) = u := ⟨_, rfl⟩
  have n5l : n5.toList = [48, 120, c, 97, 70] := by rw [← n5e, list_append, n4l, show (⟨#[97, 70]⟩ : ByteArray).toList = [97, 70] from mk_list [97, 70]]; rfl
  have n5s : n5.size ≤ 10 := by rw [← list_len, n5l]; simp
  obtain ⟨n6, n6e⟩ : ∃ u : ByteArray, d ++ (⟨#[46]⟩ : ByteArray) = u := ⟨_, rfl⟩
  have n6l : n6.toList = [c, 46] := by rw [← n6e, list_append, hdl, show (⟨#[46]⟩ : ByteArray).toList = [46] from mk_list [46]]; rfl
  have n6s : n6.size ≤ 10 := by rw [← list_len, n6l]; simp
  obtain ⟨n7, n7e⟩ : ∃ u : ByteArray, (⟨#[46]⟩ : ByteArray) ++ d = u := ⟨_, rfl⟩
  have n7l : n7.toList = [46, c] := by rw [← n7e, list_append, show (⟨#[46]⟩ : ByteArray).toList = [46] from mk_list [46], hdl]; rfl
  have n7s : n7.size ≤ 10 := by rw [← list_len, n7l]; simp
  obtain ⟨n8, n8e⟩ : ∃ u : ByteArray, n6 ++ d = u := ⟨_, rfl⟩
  have n8l : n8.toList = [c, 46, c] := by rw [← n8e, list_append, n6l, hdl]; rfl
  have n8s : n8.size ≤ 10 := by rw [← list_len, n8l]; simp
  obtain ⟨n9, n9e⟩ : ∃ u : ByteArray, n1 ++ (⟨#[101]⟩ : ByteArray) = u := ⟨_, rfl⟩
  have n9l : n9.toList = [45, c, 101] := by rw [← n9e, list_append, n1l, show (⟨#[101]⟩ : ByteArray).toList = [101] from mk_list [101]]; rfl
  have n9s : n9.size ≤ 10 := by rw [← list_len, n9l]; simp
  obtain ⟨n10, n10e⟩ : ∃ u : ByteArray, n9 ++ d = u := ⟨_, rfl⟩
  have n10l : n10.toList = [45, c, 101, c] := by rw [← n10e, list_append, n9l, hdl]; rfl
  have n10s : n10.size ≤ 10 := by rw [← list_len, n10l]; simp
  obtain ⟨n11, n11e⟩ : ∃ u : ByteArray, d ++ (⟨#[69, 45]⟩ : ByteArray) = u := ⟨_, rfl⟩
  have n11l : n11.toList = [c, 69, 45] := by rw [← n11e, list_append, hdl, show (⟨#[69, 45]⟩ : ByteArray).toList = [69, 45] from mk_list [69, 45]]; rfl
  have n11s : n11.size ≤ 10 := by rw [← list_len, n11l]; simp
  obtain ⟨n12, n12e⟩ : ∃ u : ByteArray, n11 ++ d = u := ⟨_, rfl⟩
  have n12l : n12.toList = [c, 69, 45, c] := by rw [← n12e, list_append, n11l, hdl]; rfl
  have n12s : n12.size ≤ 10 := by rw [← list_len, n12l]; simp
  obtain ⟨n13, n13e⟩ : ∃ u : ByteArray, n7 ++ (⟨#[101, 43]⟩ : ByteArray) = u := ⟨_, rfl⟩
  have n13l : n13.toList = [46, c, 101, 43] := by rw [← n13e, list_append, n7l, show (⟨#[101, 43]⟩ : ByteArray).toList = [101, 43] from mk_list [101, 43]]; rfl
  have n13s : n13.size ≤ 10 := by rw [← list_len, n13l]; simp
  obtain ⟨n14, n14e⟩ : ∃ u : ByteArray, n13 ++ d = u := ⟨_, rfl⟩
  have n14l : n14.toList = [46, c, 101, 43, c] := by rw [← n14e, list_append, n13l, hdl]; rfl
  have n14s : n14.size ≤ 10 := by rw [← list_len, n14l]; simp
  obtain ⟨n15, n15e⟩ : ∃ u : ByteArray, d ++ (⟨#[95]⟩ : ByteArray) = u := ⟨_, rfl⟩
  have n15l : n15.toList = [c, 95] := by rw [← n15e, list_append, hdl, show (⟨#[95]⟩ : ByteArray).toList = [95] from mk_list [95]]; rfl
  have n15s : n15.size ≤ 10 := by rw [← list_len, n15l]; simp
  obtain ⟨n16, n16e⟩ : ∃ u : ByteArray, n15 ++ d = u := ⟨_, rfl⟩
  have n16l : n16.toList = [c, 95, c] := by rw [← n16e, list_append, n15l, hdl]; rfl
  have n16s : n16.size ≤ 10 := by rw [← list_len, n16l]; simp
  obtain ⟨n17, n17e⟩ : ∃ u : ByteArray, (⟨#[101]⟩ : ByteArray) ++ d = u := ⟨_, rfl⟩
  have n17l : n17.toList = [101, c] := by rw [← n17e, list_append, show (⟨#[101]⟩ : ByteArray).toList = [101] from mk_list [101], hdl]; rfl
  have n17s : n17.size ≤ 10 := by rw [← list_len, n17l]; simp
  obtain ⟨n18, n18e⟩ : ∃ u : ByteArray, d ++ (⟨#[101]⟩ : ByteArray) = u := ⟨_, rfl⟩
  have n18l : n18.toList = [c, 101] := by rw [← n18e, list_append, hdl, show (⟨#[101]⟩ : ByteArray).toList = [101] from mk_list [101]]; rfl
  have n18s : n18.size ≤ 10 := by rw [← list_len, n18l]; simp
  obtain ⟨n19, n19e⟩ : ∃ u : ByteArray, d ++ (⟨#[101, 43]⟩ : ByteArray) = u := ⟨_, rfl⟩
  have n19l : n19.toList = [c, 101, 43] := by rw [← n19e, list_append, hdl, show (⟨#[101, 43]⟩ : ByteArray).toList = [101, 43] from mk_list [101, 43]]; rfl
  have n19s : n19.size ≤ 10 := by rw [← list_len, n19l]; simp
  obtain ⟨n20, n20e⟩ : ∃ u : ByteArray, (⟨#[46, 101]⟩ : ByteArray) ++ d = u := ⟨_, rfl⟩
  have n20l : n20.toList = [46, 101, c] := by rw [← n20e, list_append, show (⟨#[46, 101]⟩ : ByteArray).toList = [46, 101] from mk_list [46, 101], hdl]; rfl
  have n20s : n20.size ≤ 10 := by rw [← list_len, n20l]; simp
  obtain ⟨n21, n21e⟩ : ∃ u : ByteArray, d ++ (⟨#[46, 46]⟩ : ByteArray) = u := ⟨_, rfl⟩
  have n21l : n21.toList = [c, 46, 46] := by rw [← n21e, list_append, hdl, show (⟨#[46, 46]⟩ : ByteArray).toList = [46, 46] from mk_list [46, 46]]; rfl
  have n21s : n21.size ≤ 10 := by rw [← list_len, n21l]; simp
  obtain ⟨n22, n22e⟩ : ∃ u : ByteArray, n21 ++ d = u := ⟨_, rfl⟩
  have n22l : n22.toList = [c, 46, 46, c] := by rw [← n22e, list_append, n21l, hdl]; rfl
  have n22s : n22.size ≤ 10 := by rw [← list_len, n22l]; simp
  obtain ⟨n23, n23e⟩ : ∃ u : ByteArray, n8 ++ (⟨#[46]⟩ : ByteArray) = u := ⟨_, rfl⟩
  have n23l : n23.toList = [c, 46, c, 46] := by rw [← n23e, list_append, n8l, show (⟨#[46]⟩ : ByteArray).toList = [46] from mk_list [46]]; rfl
  have n23s : n23.size ≤ 10 := by rw [← list_len, n23l]; simp
  obtain ⟨n24, n24e⟩ : ∃ u : ByteArray, n23 ++ d = u := ⟨_, rfl⟩
  have n24l : n24.toList = [c, 46, c, 46, c] := by rw [← n24e, list_append, n23l, hdl]; rfl
  have n24s : n24.size ≤ 10 := by rw [← list_len, n24l]; simp
  obtain ⟨n25, n25e⟩ : ∃ u : ByteArray, (⟨#[32]⟩ : ByteArray) ++ d = u := ⟨_, rfl⟩
  have n25l : n25.toList = [32, c] := by rw [← n25e, list_append, show (⟨#[32]⟩ : ByteArray).toList = [32] from mk_list [32], hdl]; rfl
  have n25s : n25.size ≤ 10 := by rw [← list_len, n25l]; simp
  obtain ⟨n26, n26e⟩ : ∃ u : ByteArray, d ++ (⟨#[32]⟩ : ByteArray) = u := ⟨_, rfl⟩
  have n26l : n26.toList = [c, 32] := by rw [← n26e, list_append, hdl, show (⟨#[32]⟩ : ByteArray).toList = [32] from mk_list [32]]; rfl
  have n26s : n26.size ≤ 10 := by rw [← list_len, n26l]; simp
  have dd : d.data.toList = [c] := by rw [← Lib.toList_data]; exact hdl
  have n1d : n1.data.toList = [45, c] := by rw [← Lib.toList_data]; exact n1l
  have n2d : n2.data.toList = [43, c] := by rw [← Lib.toList_data]; exact n2l
  have n3d : n3.data.toList = [43, c, c] := by rw [← Lib.toList_data]; exact n3l
  have n4d : n4.data.toList = [48, 120, c] := by rw [← Lib.toList_data]; exact n4l
  have n5d : n5.data.toList = [48, 120, c, 97, 70] := by rw [← Lib.toList_data]; exact n5l
  have n6d : n6.data.toList = [c, 46] := by rw [← Lib.toList_data]; exact n6l
  have n7d : n7.data.toList = [46, c] := by rw [← Lib.toList_data]; exact n7l
  have n8d : n8.data.toList = [c, 46, c] := by rw [← Lib.toList_data]; exact n8l
  have n9d : n9.data.toList = [45, c, 101] := by rw [← Lib.toList_data]; exact n9l
  have n10d : n10.data.toList = [45, c, 101, c] := by rw [← Lib.toList_data]; exact n10l
  have n11d : n11.data.toList = [c, 69, 45] := by rw [← Lib.toList_data]; exact n11l
  have n12d : n12.data.toList = [c, 69, 45, c] := by rw [← Lib.toList_data]; exact n12l
  have n13d : n13.data.toList = [46, c, 101, 43] := by rw [← Lib.toList_data]; exact n13l
  have n14d : n14.data.toList = [46, c, 101, 43, c] := by rw [← Lib.toList_data]; exact n14l
  have n15d : n15.data.toList = [c, 95] := by rw [← Lib.toList_data]; exact n15l
  have n16d : n16.data.toList = [c, 95, c] := by rw [← Lib.toList_data]; exact n16l
  have n17d : n17.data.toList = [101, c] := by rw [← Lib.toList_data]; exact n17l
  have n18d : n18.data.toList = [c, 101] := by rw [← Lib.toList_data]; exact n18l
  have n19d : n19.data.toList = [c, 101, 43] := by rw [← Lib.toList_data]; exact n19l
  have n20d : n20.data.toList = [46, 101, c] := by rw [← Lib.toList_data]; exact n20l
  have n21d : n21.data.toList = [c, 46, 46] := by rw [← Lib.toList_data]; exact n21l
  have n22d : n22.data.toList = [c, 46, 46, c] := by rw [← Lib.toList_data]; exact n22l
  have n23d : n23.data.toList = [c, 46, c, 46] := by rw [← Lib.toList_data]; exact n23l
  have n24d : n24.data.toList = [c, 46, c, 46, c] := by rw [← Lib.toList_data]; exact n24l
  have n25d : n25.data.toList = [32, c] := by rw [← Lib.toList_data]; exact n25l
  have n26d : n26.data.toList = [c, 32] := by rw [← Lib.toList_data]; exact n26l
  obtain ⟨ls1, hls1⟩ : ∃ l : List ByteArray, l = [(⟨#[110, 117, 108, 108]⟩ : ByteArray), (⟨#[78, 117, 108, 108]⟩ : ByteArray), (⟨#[78, 85, 76, 76]⟩ : ByteArray), (⟨#[126]⟩ : ByteArray), (⟨#[]⟩ : ByteArray)] := ⟨_, rfl⟩
  have F1 : Hid (∀ k, k < 5 → ∃ s, ls1[k]? = some s ∧ s.size ≤ 10 ∧ resF s.toList = [33, 33, 110, 117, 108, 108]) := by
    refine forms_at ls1 (form1 c) ?_ _ ?_ 5 rfl
    · rw [hls1]; simp only [List.map_cons, List.map_nil]; rfl
    · have := forms_all ⟨j, hj⟩; rw [← hc] at this; exact this.1
  have C1 : Hid (∀ (W : World) k s, ls1[k]? = some s → (W.alloc (.cells #[.string (⟨#[110, 117, 108, 108]⟩ : ByteArray), .string (⟨#[78, 117, 108, 108]⟩ : ByteArray), .string (⟨#[78, 85, 76, 76]⟩ : ByteArray), .string (⟨#[126]⟩ : ByteArray), .string (⟨#[]⟩ : ByteArray)] 9)).cell? ⟨W.heap.size, k, none⟩ = some (.string s)) := by
    intro W k s h; rw [hls1] at h; exact ncs_new W _ 9 k s h
  obtain ⟨ls2, hls2⟩ : ∃ l : List ByteArray, l = [(⟨#[116, 114, 117, 101]⟩ : ByteArray), (⟨#[84, 114, 117, 101]⟩ : ByteArray), (⟨#[84, 82, 85, 69]⟩ : ByteArray), (⟨#[102, 97, 108, 115, 101]⟩ : ByteArray), (⟨#[70, 97, 108, 115, 101]⟩ : ByteArray), (⟨#[70, 65, 76, 83, 69]⟩ : ByteArray)] := ⟨_, rfl⟩
  have F2 : Hid (∀ k, k < 6 → ∃ s, ls2[k]? = some s ∧ s.size ≤ 10 ∧ resF s.toList = [33, 33, 98, 111, 111, 108]) := by
    refine forms_at ls2 (form2 c) ?_ _ ?_ 6 rfl
    · rw [hls2]; simp only [List.map_cons, List.map_nil]; rfl
    · have := forms_all ⟨j, hj⟩; rw [← hc] at this; exact this.2.1
  have C2 : Hid (∀ (W : World) k s, ls2[k]? = some s → (W.alloc (.cells #[.string (⟨#[116, 114, 117, 101]⟩ : ByteArray), .string (⟨#[84, 114, 117, 101]⟩ : ByteArray), .string (⟨#[84, 82, 85, 69]⟩ : ByteArray), .string (⟨#[102, 97, 108, 115, 101]⟩ : ByteArray), .string (⟨#[70, 97, 108, 115, 101]⟩ : ByteArray), .string (⟨#[70, 65, 76, 83, 69]⟩ : ByteArray)] 9)).cell? ⟨W.heap.size, k, none⟩ = some (.string s)) := by
    intro W k s h; rw [hls2] at h; exact ncs_new W _ 9 k s h
  obtain ⟨ls3, hls3⟩ : ∃ l : List ByteArray, l = [d, n1, n3, (⟨#[48, 111, 55]⟩ : ByteArray), n5] := ⟨_, rfl⟩
  have F3 : Hid (∀ k, k < 5 → ∃ s, ls3[k]? = some s ∧ s.size ≤ 10 ∧ resF s.toList = [33, 33, 105, 110, 116]) := by
    refine forms_at ls3 (form3 c) ?_ _ ?_ 5 rfl
    · rw [hls3]; simp only [List.map_cons, List.map_nil, dd, n1d, n3d, n5d]; rfl
    · have := forms_all ⟨j, hj⟩; rw [← hc] at this; exact this.2.2.1
  have C3 : Hid (∀ (W : World) k s, ls3[k]? = some s → (W.alloc (.cells #[.string d, .string n1, .string n3, .string (⟨#[48, 111, 55]⟩ : ByteArray), .string n5] 9)).cell? ⟨W.heap.size, k, none⟩ = some (.string s)) := by
    intro W k s h; rw [hls3] at h; exact ncs_new W _ 9 k s h
  obtain ⟨ls4, hls4⟩ : ∃ l : List ByteArray, l = [n6, n7, n8, n10, n12, n14, (⟨#[46, 105, 110, 102]⟩ : ByteArray), (⟨#[45, 46, 73, 78, 70]⟩ : ByteArray), (⟨#[43, 46, 73, 110, 102]⟩ : ByteArray), (⟨#[46, 110, 97, 110]⟩ : ByteArray), (⟨#[46, 78, 97, 78]⟩ : ByteArray), (⟨#[46, 78, 65, 78]⟩ : ByteArray)] := ⟨_, rfl⟩
  have F4 : Hid (∀ k, k < 12 → ∃ s, ls4[k]? = some s ∧ s.size ≤ 10 ∧ resF s.toList = [33, 33, 102, 108, 111, 97, 116]) := by
    refine forms_at ls4 (form4 c) ?_ _ ?_ 12 rfl
    · rw [hls4]; simp only [List.map_cons, List.map_nil, n6d, n7d, n8d, n10d, n12d, n14d]; rfl
    · have := forms_all ⟨j, hj⟩; rw [← hc] at this; exact this.2.2.2.1
  have C4 : Hid (∀ (W : World) k s, ls4[k]? = some s → (W.alloc (.cells #[.string n6, .string n7, .string n8, .string n10, .string n12, .string n14, .string (⟨#[46, 105, 110, 102]⟩ : ByteArray), .string (⟨#[45, 46, 73, 78, 70]⟩ : ByteArray), .string (⟨#[43, 46, 73, 110, 102]⟩ : ByteArray), .string (⟨#[46, 110, 97, 110]⟩ : ByteArray), .string (⟨#[46, 78, 97, 78]⟩ : ByteArray), .string (⟨#[46, 78, 65, 78]⟩ : ByteArray)] 9)).cell? ⟨W.heap.size, k, none⟩ = some (.string s)) := by
    intro W k s h; rw [hls4] at h; exact ncs_new W _ 9 k s h
  obtain ⟨ls5, hls5⟩ : ∃ l : List ByteArray, l = [(⟨#[110, 85, 76, 76]⟩ : ByteArray), (⟨#[116, 82, 117, 101]⟩ : ByteArray), (⟨#[121, 101, 115]⟩ : ByteArray), (⟨#[110, 111]⟩ : ByteArray), (⟨#[111, 110]⟩ : ByteArray), (⟨#[48, 111, 56]⟩ : ByteArray), (⟨#[48, 120]⟩ : ByteArray), (⟨#[48, 111]⟩ : ByteArray), (⟨#[45, 48, 120, 49]⟩ : ByteArray), (⟨#[43, 48, 111, 49]⟩ : ByteArray), n16, (⟨#[46]⟩ : ByteArray), (⟨#[45]⟩ : ByteArray), (⟨#[43]⟩ : ByteArray), n17, n18, n19, n20, (⟨#[45, 46, 110, 97, 110]⟩ : ByteArray), (⟨#[46, 105, 78, 102]⟩ : ByteArray), (⟨#[105, 110, 102]⟩ : ByteArray), (⟨#[110, 97, 110]⟩ : ByteArray), n22, n24, n25, n26] := ⟨_, rfl⟩
  have F5 : Hid (∀ k, k < 26 → ∃ s, ls5[k]? = some s ∧ s.size ≤ 10 ∧ resF s.toList = [33, 33, 115, 116, 114]) := by
    refine forms_at ls5 (form5 c) ?_ _ ?_ 26 rfl
    · rw [hls5]; simp only [List.map_cons, List.map_nil, n16d, n17d, n18d, n19d, n20d, n22d, n24d, n25d, n26d]; rfl
    · have := forms_all ⟨j, hj⟩; rw [← hc] at this; exact this.2.2.2.2
  have C5 : Hid (∀ (W : World) k s, ls5[k]? = some s → (W.alloc (.cells #[.string (⟨#[110, 85, 76, 76]⟩ : ByteArray), .string (⟨#[116, 82, 117, 101]⟩ : ByteArray), .string (⟨#[121, 101, 115]⟩ : ByteArray), .string (⟨#[110, 111]⟩ : ByteArray), .string (⟨#[111, 110]⟩ : ByteArray), .string (⟨#[48, 111, 56]⟩ : ByteArray), .string (⟨#[48, 120]⟩ : ByteArray), .string (⟨#[48, 111]⟩ : ByteArray), .string (⟨#[45, 48, 120, 49]⟩ : ByteArray), .string (⟨#[43, 48, 111, 49]⟩ : ByteArray), .string n16, .string (⟨#[46]⟩ : ByteArray), .string (⟨#[45]⟩ : ByteArray), .string (⟨#[43]⟩ : ByteArray), .string n17, .string n18, .string n19, .string n20, .string (⟨#[45, 46, 110, 97, 110]⟩ : ByteArray), .string (⟨#[46, 105, 78, 102]⟩ : ByteArray), .string (⟨#[105, 110, 102]⟩ : ByteArray), .string (⟨#[110, 97, 110]⟩ : ByteArray), .string n22, .string n24, .string n25, .string n26] 9)).cell? ⟨W.heap.size, k, none⟩ = some (.string s)) := by
    intro W k s h; rw [hls5] at h; exact ncs_new W _ 9 k s h
  clear hc hdl dd n1l n2l n3l n4l n5l n6l n7l n8l n9l n10l n11l n12l n13l n14l n15l n16l n17l n18l n19l n20l n21l n22l n23l n24l n25l n26l n1d n2d n3d n4d n5d n6d n7d n8d n9d n10d n11d n12d n13d n14d n15d n16d n17d n18d n19d n20d n21d n22d n23d n24d n25d n26d 
  clear hls1
  clear hls2
  clear hls3
  clear hls4
  clear hls5
  go_wp2_with fail
  go_loopw [20] (fun u V => ∃ q : Nat, q ≤ 5 ∧ u = .int .i64 (q : Int) ∧ Hid (Below w.heap.size w V ∧ ∀ k s, ls1[k]? = some s → V.cell? ⟨w.heap.size, k, none⟩ = some (.string s))) (fun u _ => 5 - (intOf u).toNat)
  case atStart => exact ⟨0, by omega, rfl, HBW.out.alloc HBW.out.size _, C1.out w⟩
  case round =>
    obtain ⟨q, hq, rfl, HJ⟩ := hrel
    obtain ⟨V1, hV1⟩ : ∃ V, V = wr := ⟨_, rfl⟩
    subst hV1
    by_cases hlt : q < 5
    · obtain ⟨s, hs, hs10, hsr⟩ := F1.out q hlt
      have hcell := HJ.out.2 q s hs
      have HSR := Lib.hid hsr
      have dq : (q : Int) < 5 := by omega
      clear hs hsr
      go_wp2_with fail
      refine (res_at (Below.refl V1.heap.size V1) s (by omega) (mk [33, 33, 110, 117, 108, 108]) (by rw [mk_list]; exact HSR.out)).mono ?_
      rintro e X1 ⟨rfl, hb1⟩
      have HX1 := Lib.hid hb1
      clear hb1
      simp only [mk]
      go_wp2_with fail
      go_roundw
      case rel => exact ⟨q + 1, by omega, by go_num, below_step HJ.out.1 HX1.out, fun k s h => cell_keep HX1.out (HJ.out.2 k s h)⟩
      case measure => simp [intOf]; omega
    · obtain rfl : q = 5 := by omega
      have H1 : Hid (Below w.heap.size w V1) := HJ.out.1
      clear HJ hlt hq
      go_wp2_with fail
      go_loopw [30] (fun u V => ∃ q : Nat, q ≤ 6 ∧ u = .int .i64 (q : Int) ∧ Hid (Below w.heap.size w V ∧ ∀ k s, ls2[k]? = some s → V.cell? ⟨V1.heap.size, k, none⟩ = some (.string s))) (fun u _ => 6 - (intOf u).toNat)
      case atStart => exact ⟨0, by omega, rfl, H1.out.alloc H1.out.size _, C2.out V1⟩
      case round =>
        obtain ⟨q, hq, rfl, HJ⟩ := hrel
        obtain ⟨V2, hV2⟩ : ∃ V, V = wr := ⟨_, rfl⟩
        subst hV2
        by_cases hlt : q < 6
        · obtain ⟨s, hs, hs10, hsr⟩ := F2.out q hlt
          have hcell := HJ.out.2 q s hs
          have HSR := Lib.hid hsr
          have dq : (q : Int) < 6 := by omega
          clear hs hsr
          go_wp2_with fail
          refine (res_at (Below.refl V2.heap.size V2) s (by omega) (mk [33, 33, 98, 111, 111, 108]) (by rw [mk_list]; exact HSR.out)).mono ?_
          rintro e X1 ⟨rfl, hb1⟩
          have HX1 := Lib.hid hb1
          clear hb1
          simp only [mk]
          go_wp2_with fail
          go_roundw
          case rel => exact ⟨q + 1, by omega, by go_num, below_step HJ.out.1 HX1.out, fun k s h => cell_keep HX1.out (HJ.out.2 k s h)⟩
          case measure => simp [intOf]; omega
        · obtain rfl : q = 6 := by omega
          have H2 : Hid (Below w.heap.size w V2) := HJ.out.1
          clear HJ hlt hq
          go_wp2_with fail
          go_loopw [50] (fun u V => ∃ q : Nat, q ≤ 5 ∧ u = .int .i64 (q : Int) ∧ Hid (Below w.heap.size w V ∧ ∀ k s, ls3[k]? = some s → V.cell? ⟨V2.heap.size, k, none⟩ = some (.string s))) (fun u _ => 5 - (intOf u).toNat)
          case atStart => exact ⟨0, by omega, rfl, H2.out.alloc H2.out.size _, C3.out V2⟩
          case round =>
            obtain ⟨q, hq, rfl, HJ⟩ := hrel
            obtain ⟨V3, hV3⟩ : ∃ V, V = wr := ⟨_, rfl⟩
            subst hV3
            by_cases hlt : q < 5
            · obtain ⟨s, hs, hs10, hsr⟩ := F3.out q hlt
              have hcell := HJ.out.2 q s hs
              have HSR := Lib.hid hsr
              have dq : (q : Int) < 5 := by omega
              clear hs hsr
              go_wp2_with fail
              refine (res_at (Below.refl V3.heap.size V3) s (by omega) (mk [33, 33, 105, 110, 116]) (by rw [mk_list]; exact HSR.out)).mono ?_
              rintro e X1 ⟨rfl, hb1⟩
              have HX1 := Lib.hid hb1
              clear hb1
              simp only [mk]
              go_wp2_with fail
              go_roundw
              case rel => exact ⟨q + 1, by omega, by go_num, below_step HJ.out.1 HX1.out, fun k s h => cell_keep HX1.out (HJ.out.2 k s h)⟩
              case measure => simp [intOf]; omega
            · obtain rfl : q = 5 := by omega
              have H3 : Hid (Below w.heap.size w V3) := HJ.out.1
              clear HJ hlt hq
              go_wp2_with fail
              go_loopw [82] (fun u V => ∃ q : Nat, q ≤ 12 ∧ u = .int .i64 (q : Int) ∧ Hid (Below w.heap.size w V ∧ ∀ k s, ls4[k]? = some s → V.cell? ⟨V3.heap.size, k, none⟩ = some (.string s))) (fun u _ => 12 - (intOf u).toNat)
              case atStart => exact ⟨0, by omega, rfl, H3.out.alloc H3.out.size _, C4.out V3⟩
              case round =>
                obtain ⟨q, hq, rfl, HJ⟩ := hrel
                obtain ⟨V4, hV4⟩ : ∃ V, V = wr := ⟨_, rfl⟩
                subst hV4
                by_cases hlt : q < 12
                · obtain ⟨s, hs, hs10, hsr⟩ := F4.out q hlt
                  have hcell := HJ.out.2 q s hs
                  have HSR := Lib.hid hsr
                  have dq : (q : Int) < 12 := by omega
                  clear hs hsr
                  go_wp2_with fail
                  refine (res_at (Below.refl V4.heap.size V4) s (by omega) (mk [33, 33, 102, 108, 111, 97, 116]) (by rw [mk_list]; exact HSR.out)).mono ?_
                  rintro e X1 ⟨rfl, hb1⟩
                  have HX1 := Lib.hid hb1
                  clear hb1
                  simp only [mk]
                  go_wp2_with fail
                  go_roundw
                  case rel => exact ⟨q + 1, by omega, by go_num, below_step HJ.out.1 HX1.out, fun k s h => cell_keep HX1.out (HJ.out.2 k s h)⟩
                  case measure => simp [intOf]; omega
                · obtain rfl : q = 12 := by omega
                  have H4 : Hid (Below w.heap.size w V4) := HJ.out.1
                  clear HJ hlt hq
                  go_wp2_with fail
                  go_loopw [119] (fun u V => ∃ q : Nat, q ≤ 26 ∧ u = .int .i64 (q : Int) ∧ Hid (Below w.heap.size w V ∧ ∀ k s, ls5[k]? = some s → V.cell? ⟨V4.heap.size, k, none⟩ = some (.string s))) (fun u _ => 26 - (intOf u).toNat)
                  case atStart => exact ⟨0, by omega, rfl, H4.out.alloc H4.out.size _, C5.out V4⟩
                  case round =>
                    obtain ⟨q, hq, rfl, HJ⟩ := hrel
                    obtain ⟨V5, hV5⟩ : ∃ V, V = wr := ⟨_, rfl⟩
                    subst hV5
                    by_cases hlt : q < 26
                    · obtain ⟨s, hs, hs10, hsr⟩ := F5.out q hlt
                      have hcell := HJ.out.2 q s hs
                      have HSR := Lib.hid hsr
                      have dq : (q : Int) < 26 := by omega
                      clear hs hsr
                      go_wp2_with fail
                      refine (res_at (Below.refl V5.heap.size V5) s (by omega) (mk [33, 33, 115, 116, 114]) (by rw [mk_list]; exact HSR.out)).mono ?_
                      rintro e X1 ⟨rfl, hb1⟩
                      have HX1 := Lib.hid hb1
                      clear hb1
                      simp only [mk]
                      go_wp2_with fail
                      go_roundw
                      case rel => exact ⟨q + 1, by omega, by go_num, below_step HJ.out.1 HX1.out, fun k s h => cell_keep HX1.out (HJ.out.2 k s h)⟩
                      case measure => simp [intOf]; omega
                    · obtain rfl : q = 26 := by omega
                      have H5 : Hid (Below w.heap.size w V5) := HJ.out.1
                      clear HJ hlt hq
                      go_wp2_with fail
                      refine (wakes_at H5.out).mono ?_
                      rintro e Y ⟨rfl, hb⟩
                      have HY := Lib.hid hb
                      clear hb
                      go_wp2_with fail
                      go_ret
                      exact ⟨rfl, HY.out⟩


set_option maxRecDepth 100000 in
theorem lifted (os : Os) (started : os.Started) (H : Type) (enc : TypeId × Value → H) :
    ReturnsInHanded {} Tryd.checked os 7 .any (fun w args => (Rows.schemaFormsSpec.pre enc Tryd.prog Tryd.f7 Rows.schemaFormsRow.domain false w args ∧ laidMetH Tryd.prog Rows.schemaFormsRow.laid w) ∧ sizedMet enc Tryd.prog Tryd.f7 (OpenSpec.ofChange Rows.schemaFormsSpec) false w args)
      (Rows.schemaFormsSpec.post enc Tryd.prog Tryd.f7 false true false false) := by
  refine returns_listed (C := Tryd.checked) (X := fun w _ => laidMetH Tryd.prog Rows.schemaFormsRow.laid w) (fun _ _ _ hh h => h.of_heap hh) own started (by kernel_rfl) Tryd.func7
    (ChangeSpec.witness_shaped (enc := enc) (C := Tryd.checked) (os := os) (X := fun w _ => laidMetH Tryd.prog Rows.schemaFormsRow.laid w) false (World.laidAll Tryd.prog os Rows.schemaFormsRow.laid) #[.int .i64 0] 8 (World.laidAll_os _ _ _)
      (World.shaped_of_ZipB (by kernel_rfl) (by kernel_rfl)) (by kernel_rfl) (by kernel_rfl) (by kernel_rfl)
      (by rw [MakeChecks.laidMetH_plain _ _ _ (by kernel_rfl)]; exact laidMet_laidAll _ (by kernel_rfl) (by kernel_rfl))) ?_
  intro W base args ds gs before hval0 hW hX hsh
  have hval : ∀ (j : Nat) t v, Tryd.f7.params[j]? = some t → args[j]? = some v → Value.okWide Tryd.prog W .any base t v := hval0
  have hW' := hW
  obtain ⟨p, q, hA0, hV, rfl, hfz, hnd⟩ := hW
  have hA : DataW.TrodAll enc Tryd.prog W 0 (fun _ => true) true Tryd.f7.params.toList args.toList ds p := hA0
  rw [Tryd.params7] at hA hval
  obtain ⟨v0, vs0, d0, ds0, p0, q0, hargs, rfl, rfl, h0, r0⟩ := trodAll_cons hA
  obtain ⟨rfl, rfl, rfl⟩ := trodAll_nil r0
  obtain rfl : args = #[v0] := by cases args; simp_all
  obtain ⟨rfl, rfl⟩ := trodVars_none hV
  obtain ⟨a0, rfl, rfl, rfl, w0⟩ := open_int Tryd.underlying3 (hval 0 3 v0 rfl rfl) h0
  clear hA0 hval0
  refine (walk a0 W w0 (trivial)).mono fun e W' ⟨he, bel⟩ => ?_
  subst he
  exact ⟨_, rfl, _, _, _, [], _, [], hW', trodAll_mk1 (shut_bool Tryd.underlying4 _), (trodAll_cons_mk (shut_int Tryd.underlying3 w0) trodAll_mk0), rfl, bel.frame _, fun h => by cases h⟩

theorem over : Rows.schemaFormsRow.holds Tryd.pinned (OpenSpec.ofChange Rows.schemaFormsSpec) :=
  OpenClaim.holds_of_wide 7 Tryd.f7 rfl rfl rfl rfl rfl rfl rfl ⟨rfl, rfl, rfl, rfl, rfl⟩ rfl rfl rfl rfl rfl (by kernel_rfl) Tryd.func7 (by kernel_rfl)
    (of_decide_eq_true (by kernel_rfl)) (by unfold Func.isWrapper; first | (rw [if_pos (by decide +kernel)]; kernel_rfl) | (rw [if_neg (by decide +kernel)]; exact ⟨rfl, rfl⟩))
    (fun os started H enc _ => lifted os started H enc)

theorem proved : Rows.SchemaFormsCardSaid :=
  Claim7.holds_tied_plain_at .later [] [.data, .pinned] true (true, "12ba9469dea4a61ed39d4fd763e582fde901584c9749bd5f353be433d1f306d1") false over (fun _ h => by cases h) (by kernel_rfl) (fun _ h => by cases h) schemaForms_row_tie rfl ⟨rfl, rfl⟩ (by kernel_rfl) rfl
    (fun f fn hf hfn => by
      obtain rfl : f = 7 := Option.some.inj ((show Tryd.prog.funcNamed Rows.schemaFormsRow.func = some 7 by kernel_rfl).symm.trans hf) |>.symm
      obtain rfl : fn = Tryd.f7 := (Option.some.inj (Tryd.func7.symm.trans hfn)).symm
      exact ⟨by kernel_rfl, fun j t ht => by
        rw [Tryd.params7] at ht
        have hm : t ∈ [3] := by simpa using Array.mem_of_getElem? ht
        have hall : ([3].all fun u => !Tryd.prog.wantsStandIn u) = true := by kernel_rfl
        exact (show Tryd.prog.wantsStandIn t = false by simpa using List.all_eq_true.1 hall t hm)⟩)
    (by kernel_rfl)
#print axioms proved
end Go.Proofs.YtijclnjiibblaaaDoor.schemaForms
