/-
  Proved: the card of the law 'scholium/scholiumlaw08.SchemaNumbers' (for every input it returns true, and every argument reads as it did before; the package variables that the row lists are tied to the program's text). No conditions.
-/
import Derived.Test.YtijclnjiibblaaaDoorRows
import Derived.Test.YtijclnjiibblaaaDoorCards
import Derived.Test.YtijclnjiibblaaaDoorTie
import Derived.Test.YtijclnjiibblaaaDoorDoor
import Derived.Test.YtijclnjiibblaaaDoorScNum
import Derived.WalkKit
import Derived.ProofKit
import Derived.OpenShut
import Derived.ShutString
import Derived.ChangeOld
import Derived.Below
import Derived.LaidMore
import Derived.Lay
import Derived.SevenTiedAt
namespace Go.Proofs.YtijclnjiibblaaaDoor.schemaNumbers
open Go.ChangeShapes Go.WideShapes Go.ChangeAt Go.RowKit
open Go.ChangeMaps (open_string shut_string)
set_option linter.unusedVariables false

theorem own : ownKnob Tryd.prog.godebug = none := by kernel_rfl
theorem laidOut : laidOutB Tryd.prog = true := by kernel_rfl

/-- A slice of integers that came in. -/
def IsRow (k : IntKind) (w : World) (a : Option Addr) (len cap : Nat) (zs : List Int) : Prop :=
  (a = none ∧ len = 0 ∧ cap = 0 ∧ zs = []) ∨
  ∃ x, a = some x ∧ len ≤ cap ∧ cap ≤ maxLen ∧ zs.length = cap ∧ (∀ i, i < zs.length → w.cell? (x.add i) = some (.int k (zs.getD i 0))) ∧ ∀ n ∈ zs, (Lit.int k n).wf = true

theorem sgn_at (k : Nat) (h : k < 3) : ∃ d : ByteArray, ([⟨#[]⟩, ⟨#[45]⟩, ⟨#[43]⟩] : List ByteArray)[k]? = some d ∧ d.size ≤ 1 ∧ Sgn d.toList := by
  rcases (by omega : k = 0 ∨ k = 1 ∨ k = 2) with rfl | rfl | rfl
  · exact ⟨_, rfl, by decide, .inl (mk_list [])⟩
  · exact ⟨_, rfl, by decide, .inr (.inl (mk_list [45]))⟩
  · exact ⟨_, rfl, by decide, .inr (.inr (mk_list [43]))⟩
set_option maxHeartbeats 8000000 in
set_option maxRecDepth 100000 in
theorem walk (a0 : Int) (a1 : Int) (a2 : Int) (a3 : Int) (w : World) (w0 : (Lit.int .i64 a0).wf = true) (w1 : (Lit.int .i64 a1).wf = true) (w2 : (Lit.int .i64 a2).wf = true) (w3 : (Lit.int .i64 a3).wf = true) (hT : True) :
    Calls Tryd.prog 3 #[.int .i64 a0, .int .i64 a1, .int .i64 a2, .int .i64 a3] w fun e w' => e = .returned (.bool true) ∧ Below w.heap.size w w' := by
  have ha0 := bounds_i64 w0
  have ha1 := bounds_i64 w1
  have ha2 := bounds_i64 w2
  have ha3 := bounds_i64 w3
  have HBW : Hid (Below w.heap.size w w) := Below.refl _ _
  clear w0 w1 w2 w3 hT
  go_enter Tryd.func3, Tryd.ntmps3
  go_wp2_with fail
  refine (digits_at HBW.out a0 (by omega)).mono ?_
  rintro e W1 ⟨x, hx, hxs, rfl, hb⟩
  have HB1 := Lib.hid hb
  have HX0 := Lib.hid hx
  clear hb hx
  go_wp2_with fail
  refine (digits_at HB1.out a1 (by omega)).mono ?_
  rintro e W2 ⟨y, hy, hys, rfl, hb⟩
  have HB2 := Lib.hid hb
  have HY0 := Lib.hid hy
  clear hb hy
  go_wp2_with fail
  refine (digits_at HB2.out a2 (by omega)).mono ?_
  rintro e W3 ⟨z, hz, hzs, rfl, hb⟩
  have HB3 := Lib.hid hb
  have HZ0 := Lib.hid hz
  clear hb hz
  obtain ⟨W4, hW4⟩ : ∃ W4, W3.alloc (.cells (([⟨#[]⟩, ⟨#[45]⟩, ⟨#[43]⟩] : List ByteArray).map Value.string).toArray 9) = W4 := ⟨_, rfl⟩
  have HB4 : Hid (Below w.heap.size w W4) := by rw [← hW4]; exact HB3.out.alloc HB3.out.size _
  have HC : Hid (∀ k d, ([⟨#[]⟩, ⟨#[45]⟩, ⟨#[43]⟩] : List ByteArray)[k]? = some d → W4.cell? ⟨W3.heap.size, k, none⟩ = some (.string d)) := by
    intro k d hd
    rw [← hW4, World.cell?_alloc_mark, List.getElem?_toArray, List.getElem?_map, hd]
    rfl
  simp only [List.map_cons, List.map_nil] at hW4
  go_wp2_with fail
  refine (within_nat a3 3 W4 (by omega) (by omega) (by omega)).mono ?_
  rintro e W5 ⟨k, hk, rfl, rfl⟩
  obtain ⟨s, hsk, hss, hsg⟩ := sgn_at k hk
  have hcell := HC.out k s hsk
  clear hsk HC HB3
  obtain ⟨sl, hsl⟩ : ∃ l, s.toList = l := ⟨_, rfl⟩
  obtain ⟨xl, hxl⟩ : ∃ l, x.toList = l := ⟨_, rfl⟩
  obtain ⟨yl, hyl⟩ : ∃ l, y.toList = l := ⟨_, rfl⟩
  obtain ⟨zl, hzl⟩ : ∃ l, z.toList = l := ⟨_, rfl⟩
  have HS : Hid (Sgn sl) := by show Sgn sl; rw [← hsl]; exact hsg
  have HX : Hid (Digs xl) := by show Digs xl; rw [← hxl]; exact HX0.out
  have HY : Hid (Digs yl) := by show Digs yl; rw [← hyl]; exact HY0.out
  have HZ : Hid (Digs zl) := by show Digs zl; rw [← hzl]; exact HZ0.out
  clear hsg HX0 HY0 HZ0
  obtain ⟨n1, n1e⟩ : ∃ u : ByteArray, s ++ x = u := ⟨_, rfl⟩
  have n1l : n1.toList = sl ++ xl := by rw [← n1e, list_append, hsl, hxl]
  have n1s : n1.size ≤ 4000000 := by rw [← n1e, ByteArray.size_append]; omega
  obtain ⟨n2, n2e⟩ : ∃ u : ByteArray, n1 ++ (⟨#[46]⟩ : ByteArray) = u := ⟨_, rfl⟩
  have n2l : n2.toList = sl ++ xl ++ [46] := by rw [← n2e, list_append, n1l, show (⟨#[46]⟩ : ByteArray).toList = [46] from mk_list [46]]
  have n2s : n2.size ≤ 6000000 := by rw [← n2e, ByteArray.size_append, show (⟨#[46]⟩ : ByteArray).size = 1 from rfl]; omega
  obtain ⟨n3, n3e⟩ : ∃ u : ByteArray, n2 ++ y = u := ⟨_, rfl⟩
  have n3l : n3.toList = sl ++ xl ++ [46] ++ yl := by rw [← n3e, list_append, n2l, hyl]
  have n3s : n3.size ≤ 8000000 := by rw [← n3e, ByteArray.size_append]; omega
  obtain ⟨n4, n4e⟩ : ∃ u : ByteArray, s ++ (⟨#[46]⟩ : ByteArray) = u := ⟨_, rfl⟩
  have n4l : n4.toList = sl ++ [46] := by rw [← n4e, list_append, hsl, show (⟨#[46]⟩ : ByteArray).toList = [46] from mk_list [46]]
  have n4s : n4.size ≤ 4000000 := by rw [← n4e, ByteArray.size_append, show (⟨#[46]⟩ : ByteArray).size = 1 from rfl]; omega
  obtain ⟨n5, n5e⟩ : ∃ u : ByteArray, n4 ++ y = u := ⟨_, rfl⟩
  have n5l : n5.toList = sl ++ [46] ++ yl := by rw [← n5e, list_append, n4l, hyl]
  have n5s : n5.size ≤ 6000000 := by rw [← n5e, ByteArray.size_append]; omega
  obtain ⟨n6, n6e⟩ : ∃ u : ByteArray, n1 ++ (⟨#[101]⟩ : ByteArray) = u := ⟨_, rfl⟩
  have n6l : n6.toList = sl ++ xl ++ [101] := by rw [← n6e, list_append, n1l, show (⟨#[101]⟩ : ByteArray).toList = [101] from mk_list [101]]
  have n6s : n6.size ≤ 6000000 := by rw [← n6e, ByteArray.size_append, show (⟨#[101]⟩ : ByteArray).size = 1 from rfl]; omega
  obtain ⟨n7, n7e⟩ : ∃ u : ByteArray, n6 ++ z = u := ⟨_, rfl⟩
  have n7l : n7.toList = sl ++ xl ++ [101] ++ zl := by rw [← n7e, list_append, n6l, hzl]
  have n7s : n7.size ≤ 8000000 := by rw [← n7e, ByteArray.size_append]; omega
  obtain ⟨n8, n8e⟩ : ∃ u : ByteArray, n3 ++ (⟨#[69, 45]⟩ : ByteArray) = u := ⟨_, rfl⟩
  have n8l : n8.toList = sl ++ xl ++ [46] ++ yl ++ [69, 45] := by rw [← n8e, list_append, n3l, show (⟨#[69, 45]⟩ : ByteArray).toList = [69, 45] from mk_list [69, 45]]
  have n8s : n8.size ≤ 10000000 := by rw [← n8e, ByteArray.size_append, show (⟨#[69, 45]⟩ : ByteArray).size = 2 from rfl]; omega
  obtain ⟨n9, n9e⟩ : ∃ u : ByteArray, n8 ++ z = u := ⟨_, rfl⟩
  have n9l : n9.toList = sl ++ xl ++ [46] ++ yl ++ [69, 45] ++ zl := by rw [← n9e, list_append, n8l, hzl]
  have n9s : n9.size ≤ 12000000 := by rw [← n9e, ByteArray.size_append]; omega
  obtain ⟨n10, n10e⟩ : ∃ u : ByteArray, n1 ++ (⟨#[101, 43]⟩ : ByteArray) = u := ⟨_, rfl⟩
  have n10l : n10.toList = sl ++ xl ++ [101, 43] := by rw [← n10e, list_append, n1l, show (⟨#[101, 43]⟩ : ByteArray).toList = [101, 43] from mk_list [101, 43]]
  have n10s : n10.size ≤ 6000000 := by rw [← n10e, ByteArray.size_append, show (⟨#[101, 43]⟩ : ByteArray).size = 2 from rfl]; omega
  obtain ⟨n11, n11e⟩ : ∃ u : ByteArray, n10 ++ z = u := ⟨_, rfl⟩
  have n11l : n11.toList = sl ++ xl ++ [101, 43] ++ zl := by rw [← n11e, list_append, n10l, hzl]
  have n11s : n11.size ≤ 8000000 := by rw [← n11e, ByteArray.size_append]; omega
  obtain ⟨n12, n12e⟩ : ∃ u : ByteArray, n7 ++ (⟨#[46]⟩ : ByteArray) = u := ⟨_, rfl⟩
  have n12l : n12.toList = sl ++ xl ++ [101] ++ zl ++ [46] := by rw [← n12e, list_append, n7l, show (⟨#[46]⟩ : ByteArray).toList = [46] from mk_list [46]]
  have n12s : n12.size ≤ 10000000 := by rw [← n12e, ByteArray.size_append, show (⟨#[46]⟩ : ByteArray).size = 1 from rfl]; omega
  obtain ⟨n13, n13e⟩ : ∃ u : ByteArray, n12 ++ y = u := ⟨_, rfl⟩
  have n13l : n13.toList = sl ++ xl ++ [101] ++ zl ++ [46] ++ yl := by rw [← n13e, list_append, n12l, hyl]
  have n13s : n13.size ≤ 12000000 := by rw [← n13e, ByteArray.size_append]; omega
  obtain ⟨n14, n14e⟩ : ∃ u : ByteArray, n1 ++ (⟨#[32]⟩ : ByteArray) = u := ⟨_, rfl⟩
  have n14l : n14.toList = sl ++ xl ++ [32] := by rw [← n14e, list_append, n1l, show (⟨#[32]⟩ : ByteArray).toList = [32] from mk_list [32]]
  have n14s : n14.size ≤ 6000000 := by rw [← n14e, ByteArray.size_append, show (⟨#[32]⟩ : ByteArray).size = 1 from rfl]; omega
  obtain ⟨n15, n15e⟩ : ∃ u : ByteArray, x ++ s = u := ⟨_, rfl⟩
  have n15l : n15.toList = xl ++ sl := by rw [← n15e, list_append, hxl, hsl]
  have n15s : n15.size ≤ 4000000 := by rw [← n15e, ByteArray.size_append]; omega
  obtain ⟨n16, n16e⟩ : ∃ u : ByteArray, n15 ++ (⟨#[120]⟩ : ByteArray) = u := ⟨_, rfl⟩
  have n16l : n16.toList = xl ++ sl ++ [120] := by rw [← n16e, list_append, n15l, show (⟨#[120]⟩ : ByteArray).toList = [120] from mk_list [120]]
  have n16s : n16.size ≤ 6000000 := by rw [← n16e, ByteArray.size_append, show (⟨#[120]⟩ : ByteArray).size = 1 from rfl]; omega
  obtain ⟨n17, n17e⟩ : ∃ u : ByteArray, (⟨#[48, 120]⟩ : ByteArray) ++ x = u := ⟨_, rfl⟩
  have n17l : n17.toList = [48, 120] ++ xl := by rw [← n17e, list_append, show (⟨#[48, 120]⟩ : ByteArray).toList = [48, 120] from mk_list [48, 120], hxl]
  have n17s : n17.size ≤ 4000000 := by rw [← n17e, ByteArray.size_append, show (⟨#[48, 120]⟩ : ByteArray).size = 2 from rfl]; omega
  obtain ⟨n18, n18e⟩ : ∃ u : ByteArray, (⟨#[48, 88]⟩ : ByteArray) ++ x = u := ⟨_, rfl⟩
  have n18l : n18.toList = [48, 88] ++ xl := by rw [← n18e, list_append, show (⟨#[48, 88]⟩ : ByteArray).toList = [48, 88] from mk_list [48, 88], hxl]
  have n18s : n18.size ≤ 4000000 := by rw [← n18e, ByteArray.size_append, show (⟨#[48, 88]⟩ : ByteArray).size = 2 from rfl]; omega
  obtain ⟨n19, n19e⟩ : ∃ u : ByteArray, n1 ++ (⟨#[44]⟩ : ByteArray) = u := ⟨_, rfl⟩
  have n19l : n19.toList = sl ++ xl ++ [44] := by rw [← n19e, list_append, n1l, show (⟨#[44]⟩ : ByteArray).toList = [44] from mk_list [44]]
  have n19s : n19.size ≤ 6000000 := by rw [← n19e, ByteArray.size_append, show (⟨#[44]⟩ : ByteArray).size = 1 from rfl]; omega
  obtain ⟨n20, n20e⟩ : ∃ u : ByteArray, n19 ++ y = u := ⟨_, rfl⟩
  have n20l : n20.toList = sl ++ xl ++ [44] ++ yl := by rw [← n20e, list_append, n19l, hyl]
  have n20s : n20.size ≤ 8000000 := by rw [← n20e, ByteArray.size_append]; omega
  have H0L : Hid (n1.toList = sl ++ xl) := by show _ = _; simp only [n1l, List.append_assoc, List.cons_append, List.nil_append]
  have H1L : Hid (n3.toList = sl ++ (xl ++ 46 :: yl)) := by show _ = _; simp only [n3l, List.append_assoc, List.cons_append, List.nil_append]
  have H2L : Hid (n2.toList = sl ++ (xl ++ [46])) := by show _ = _; simp only [n2l, List.append_assoc, List.cons_append, List.nil_append]
  have H3L : Hid (n5.toList = sl ++ 46 :: yl) := by show _ = _; simp only [n5l, List.append_assoc, List.cons_append, List.nil_append]
  have H4L : Hid (n7.toList = sl ++ (xl ++ 101 :: zl)) := by show _ = _; simp only [n7l, List.append_assoc, List.cons_append, List.nil_append]
  have H5L : Hid (n9.toList = sl ++ (xl ++ 46 :: (yl ++ 69 :: 45 :: zl))) := by show _ = _; simp only [n9l, List.append_assoc, List.cons_append, List.nil_append]
  have H6L : Hid (n11.toList = sl ++ (xl ++ 101 :: 43 :: zl)) := by show _ = _; simp only [n11l, List.append_assoc, List.cons_append, List.nil_append]
  have H7L : Hid (n13.toList = sl ++ (xl ++ 101 :: (zl ++ 46 :: yl))) := by show _ = _; simp only [n13l, List.append_assoc, List.cons_append, List.nil_append]
  have H8L : Hid (n14.toList = sl ++ (xl ++ [32])) := by show _ = _; simp only [n14l, List.append_assoc, List.cons_append, List.nil_append]
  have H9L : Hid (n16.toList = xl ++ (sl ++ [120])) := by show _ = _; simp only [n16l, List.append_assoc, List.cons_append, List.nil_append]
  have H10L : Hid (n17.toList = 48 :: 120 :: xl) := by show _ = _; simp only [n17l, List.append_assoc, List.cons_append, List.nil_append]
  have H11L : Hid (n18.toList = 48 :: 88 :: xl) := by show _ = _; simp only [n18l, List.append_assoc, List.cons_append, List.nil_append]
  have H12L : Hid (n20.toList = sl ++ (xl ++ 44 :: yl)) := by show _ = _; simp only [n20l, List.append_assoc, List.cons_append, List.nil_append]
  clear n1l n2l n3l n4l n5l n6l n7l n8l n9l n10l n11l n12l n13l n14l n15l n16l n17l n18l n19l n20l hsl hxl hyl hzl
  go_wp2_with fail
  refine (res_c HB4.out n1 (by omega) _ [33, 33, 105, 110, 116] H0L.out (num1 HS.out HX.out)).mono ?_
  rintro e V0 ⟨rfl, hb⟩
  have R0 := Lib.hid hb
  clear hb
  simp only [mk]
  go_wp2_with fail
  refine (res_c R0.out n3 (by omega) _ [33, 33, 102, 108, 111, 97, 116] H1L.out (num2 HS.out HX.out HY.out)).mono ?_
  rintro e V1 ⟨rfl, hb⟩
  have R1 := Lib.hid hb
  clear hb
  simp only [mk]
  go_wp2_with fail
  refine (res_c R1.out n2 (by omega) _ [33, 33, 102, 108, 111, 97, 116] H2L.out (num3 HS.out HX.out)).mono ?_
  rintro e V2 ⟨rfl, hb⟩
  have R2 := Lib.hid hb
  clear hb
  simp only [mk]
  go_wp2_with fail
  refine (res_c R2.out n5 (by omega) _ [33, 33, 102, 108, 111, 97, 116] H3L.out (num4 HS.out HY.out)).mono ?_
  rintro e V3 ⟨rfl, hb⟩
  have R3 := Lib.hid hb
  clear hb
  simp only [mk]
  go_wp2_with fail
  refine (res_c R3.out n7 (by omega) _ [33, 33, 102, 108, 111, 97, 116] H4L.out (num5 HS.out HX.out HZ.out)).mono ?_
  rintro e V4 ⟨rfl, hb⟩
  have R4 := Lib.hid hb
  clear hb
  simp only [mk]
  go_wp2_with fail
  refine (res_c R4.out n9 (by omega) _ [33, 33, 102, 108, 111, 97, 116] H5L.out (num6 HS.out HX.out HY.out HZ.out)).mono ?_
  rintro e V5 ⟨rfl, hb⟩
  have R5 := Lib.hid hb
  clear hb
  simp only [mk]
  go_wp2_with fail
  refine (res_c R5.out n11 (by omega) _ [33, 33, 102, 108, 111, 97, 116] H6L.out (num7 HS.out HX.out HZ.out)).mono ?_
  rintro e V6 ⟨rfl, hb⟩
  have R6 := Lib.hid hb
  clear hb
  simp only [mk]
  go_wp2_with fail
  refine (res_c R6.out n13 (by omega) _ [33, 33, 115, 116, 114] H7L.out (num8 HS.out HX.out HY.out HZ.out)).mono ?_
  rintro e V7 ⟨rfl, hb⟩
  have R7 := Lib.hid hb
  clear hb
  simp only [mk]
  go_wp2_with fail
  refine (res_c R7.out n14 (by omega) _ [33, 33, 115, 116, 114] H8L.out (num9 HS.out HX.out)).mono ?_
  rintro e V8 ⟨rfl, hb⟩
  have R8 := Lib.hid hb
  clear hb
  simp only [mk]
  go_wp2_with fail
  refine (res_c R8.out n16 (by omega) _ [33, 33, 115, 116, 114] H9L.out (num10 HS.out HX.out)).mono ?_
  rintro e V9 ⟨rfl, hb⟩
  have R9 := Lib.hid hb
  clear hb
  simp only [mk]
  go_wp2_with fail
  refine (res_c R9.out n17 (by omega) _ [33, 33, 105, 110, 116] H10L.out (num11 HX.out)).mono ?_
  rintro e V10 ⟨rfl, hb⟩
  have R10 := Lib.hid hb
  clear hb
  simp only [mk]
  go_wp2_with fail
  refine (res_c R10.out n18 (by omega) _ [33, 33, 115, 116, 114] H11L.out (num12 HX.out)).mono ?_
  rintro e V11 ⟨rfl, hb⟩
  have R11 := Lib.hid hb
  clear hb
  simp only [mk]
  go_wp2_with fail
  refine (res_c R11.out n20 (by omega) _ [33, 33, 115, 116, 114] H12L.out (num13 HS.out HX.out)).mono ?_
  rintro e V12 ⟨rfl, hb⟩
  have R12 := Lib.hid hb
  clear hb
  simp only [mk]
  go_wp2_with fail
  refine (wakes_at R12.out).mono ?_
  rintro e V13 ⟨rfl, hb⟩
  have R13 := Lib.hid hb
  clear hb
  go_wp2_with fail
  go_ret
  exact ⟨rfl, R13.out⟩


set_option maxRecDepth 100000 in
theorem lifted (os : Os) (started : os.Started) (H : Type) (enc : TypeId × Value → H) :
    ReturnsInHanded {} Tryd.checked os 3 .any (fun w args => (Rows.schemaNumbersSpec.pre enc Tryd.prog Tryd.f3 Rows.schemaNumbersRow.domain false w args ∧ laidMetH Tryd.prog Rows.schemaNumbersRow.laid w) ∧ sizedMet enc Tryd.prog Tryd.f3 (OpenSpec.ofChange Rows.schemaNumbersSpec) false w args)
      (Rows.schemaNumbersSpec.post enc Tryd.prog Tryd.f3 false true false false) := by
  refine returns_listed (C := Tryd.checked) (X := fun w _ => laidMetH Tryd.prog Rows.schemaNumbersRow.laid w) (fun _ _ _ hh h => h.of_heap hh) own started (by kernel_rfl) Tryd.func3
    (ChangeSpec.witness_shaped (enc := enc) (C := Tryd.checked) (os := os) (X := fun w _ => laidMetH Tryd.prog Rows.schemaNumbersRow.laid w) false (World.laidAll Tryd.prog os Rows.schemaNumbersRow.laid) #[.int .i64 0, .int .i64 0, .int .i64 0, .int .i64 0] 8 (World.laidAll_os _ _ _)
      (World.shaped_of_ZipB (by kernel_rfl) (by kernel_rfl)) (by kernel_rfl) (by kernel_rfl) (by kernel_rfl)
      (by rw [MakeChecks.laidMetH_plain _ _ _ (by kernel_rfl)]; exact laidMet_laidAll _ (by kernel_rfl) (by kernel_rfl))) ?_
  intro W base args ds gs before hval0 hW hX hsh
  have hval : ∀ (j : Nat) t v, Tryd.f3.params[j]? = some t → args[j]? = some v → Value.okWide Tryd.prog W .any base t v := hval0
  have hW' := hW
  obtain ⟨p, q, hA0, hV, rfl, hfz, hnd⟩ := hW
  have hA : DataW.TrodAll enc Tryd.prog W 0 (fun _ => true) true Tryd.f3.params.toList args.toList ds p := hA0
  rw [Tryd.params3] at hA hval
  obtain ⟨v0, vs0, d0, ds0, p0, q0, hargs, rfl, rfl, h0, r0⟩ := trodAll_cons hA
  obtain ⟨v1, vs1, d1, ds1, p1, q1, rfl, rfl, rfl, h1, r1⟩ := trodAll_cons r0
  obtain ⟨v2, vs2, d2, ds2, p2, q2, rfl, rfl, rfl, h2, r2⟩ := trodAll_cons r1
  obtain ⟨v3, vs3, d3, ds3, p3, q3, rfl, rfl, rfl, h3, r3⟩ := trodAll_cons r2
  obtain ⟨rfl, rfl, rfl⟩ := trodAll_nil r3
  obtain rfl : args = #[v0, v1, v2, v3] := by cases args; simp_all
  obtain ⟨rfl, rfl⟩ := trodVars_none hV
  obtain ⟨a0, rfl, rfl, rfl, w0⟩ := open_int Tryd.underlying3 (hval 0 3 v0 rfl rfl) h0
  obtain ⟨a1, rfl, rfl, rfl, w1⟩ := open_int Tryd.underlying3 (hval 1 3 v1 rfl rfl) h1
  obtain ⟨a2, rfl, rfl, rfl, w2⟩ := open_int Tryd.underlying3 (hval 2 3 v2 rfl rfl) h2
  obtain ⟨a3, rfl, rfl, rfl, w3⟩ := open_int Tryd.underlying3 (hval 3 3 v3 rfl rfl) h3
  clear hA0 hval0
  refine (walk a0 a1 a2 a3 W w0 w1 w2 w3 (trivial)).mono fun e W' ⟨he, bel⟩ => ?_
  subst he
  exact ⟨_, rfl, _, _, _, [], _, [], hW', trodAll_mk1 (shut_bool Tryd.underlying4 _), (trodAll_cons_mk (shut_int Tryd.underlying3 w0) (trodAll_cons_mk (shut_int Tryd.underlying3 w1) (trodAll_cons_mk (shut_int Tryd.underlying3 w2) (trodAll_cons_mk (shut_int Tryd.underlying3 w3) trodAll_mk0)))), rfl, bel.frame _, fun h => by cases h⟩

theorem over : Rows.schemaNumbersRow.holds Tryd.pinned (OpenSpec.ofChange Rows.schemaNumbersSpec) :=
  OpenClaim.holds_of_wide 3 Tryd.f3 rfl rfl rfl rfl rfl rfl rfl ⟨rfl, rfl, rfl, rfl, rfl⟩ rfl rfl rfl rfl rfl (by kernel_rfl) Tryd.func3 (by kernel_rfl)
    (of_decide_eq_true (by kernel_rfl)) (by unfold Func.isWrapper; first | (rw [if_pos (by decide +kernel)]; kernel_rfl) | (rw [if_neg (by decide +kernel)]; exact ⟨rfl, rfl⟩))
    (fun os started H enc _ => lifted os started H enc)

theorem proved : Rows.SchemaNumbersCardSaid :=
  Claim7.holds_tied_plain_at .later [] [.data, .pinned] true (true, "12ba9469dea4a61ed39d4fd763e582fde901584c9749bd5f353be433d1f306d1") false over (fun _ h => by cases h) (by kernel_rfl) (fun _ h => by cases h) schemaNumbers_row_tie rfl ⟨rfl, rfl⟩ (by kernel_rfl) rfl
    (fun f fn hf hfn => by
      obtain rfl : f = 3 := Option.some.inj ((show Tryd.prog.funcNamed Rows.schemaNumbersRow.func = some 3 by kernel_rfl).symm.trans hf) |>.symm
      obtain rfl : fn = Tryd.f3 := (Option.some.inj (Tryd.func3.symm.trans hfn)).symm
      exact ⟨by kernel_rfl, fun j t ht => by
        rw [Tryd.params3] at ht
        have hm : t ∈ [3, 3, 3, 3] := by simpa using Array.mem_of_getElem? ht
        have hall : ([3, 3, 3, 3].all fun u => !Tryd.prog.wantsStandIn u) = true := by kernel_rfl
        exact (show Tryd.prog.wantsStandIn t = false by simpa using List.all_eq_true.1 hall t hm)⟩)
    (by kernel_rfl)
#print axioms proved
end Go.Proofs.YtijclnjiibblaaaDoor.schemaNumbers
