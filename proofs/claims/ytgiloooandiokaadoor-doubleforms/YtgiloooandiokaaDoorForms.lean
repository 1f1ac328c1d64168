/-
  Proved: the card of the law 'scholium/scholiumlaw06.DoubleForms' (for every input it returns true, and every argument reads as it did before; the package variables that the row lists are tied to the program's text). No conditions.
-/
import Derived.Test.YtgiloooandiokaaDoorRows
import Derived.Test.YtgiloooandiokaaDoorCards
import Derived.Test.YtgiloooandiokaaDoorTie
import Derived.Test.YtgiloooandiokaaDoorDoor
import Derived.Test.YtgiloooandiokaaDoorDbDoor
import Derived.Test.YtgiloooandiokaaDoorDbLaw
import Derived.Test.YtgiloooandiokaaDoorDbFacts
import Derived.Test.YtgiloooandiokaaDoorKeep
import Derived.WalkKit
import Derived.ProofKit
import Derived.OpenShut
import Derived.ShutString
import Derived.ChangeOld
import Derived.Below
import Derived.LaidMore
import Derived.Lay
import Derived.SevenTiedAt
namespace Go.Proofs.YtgiloooandiokaaDoor.doubleForms
open Go.ChangeShapes Go.WideShapes Go.ChangeAt Go.RowKit
open Go.ChangeMaps (open_string shut_string)
set_option linter.unusedVariables false

theorem own : ownKnob Tryd.prog.godebug = none := by kernel_rfl
theorem laidOut : laidOutB Tryd.prog = true := by kernel_rfl

/-- A slice of integers that came in. -/
def IsRow (k : IntKind) (w : World) (a : Option Addr) (len cap : Nat) (zs : List Int) : Prop :=
  (a = none ∧ len = 0 ∧ cap = 0 ∧ zs = []) ∨
  ∃ x, a = some x ∧ len ≤ cap ∧ cap ≤ maxLen ∧ zs.length = cap ∧ (∀ i, i < zs.length → w.cell? (x.add i) = some (.int k (zs.getD i 0))) ∧ ∀ n ∈ zs, (Lit.int k n).wf = true

/-- A byte that is no quote, no break, no escape. -/
def Pl (z : Int) : Prop := z ≠ 34 ∧ z ≠ 10 ∧ z ≠ 13 ∧ z ≠ 92
theorem takeD_first (zs : List Int) (h : zs.getD 0 0 ≠ 34) : takeD zs = none := by unfold takeD; rw [if_neg h]
theorem takeD_tail (t r : List Int) (h : ∀ z ∈ t, Pl z) (hr : dq r = none) : takeD (34 :: (t ++ r)) = none := by
  rw [takeD_cons, dq_plain t r h, hr]; rfl
theorem form_none (t : List Int) (h : ∀ z ∈ t, Pl z) : takeD t = none ∧ takeD (34 :: t) = none ∧ takeD (34 :: (t ++ [92, 34])) = none ∧ takeD (34 :: (t ++ [10, 34])) = none ∧ takeD (34 :: 13 :: (t ++ [34])) = none ∧ takeD (39 :: (t ++ [34])) = none ∧
    takeD (34 :: (t ++ [92, 113, 34])) = none ∧ takeD (34 :: (t ++ [92, 120, 52, 34])) = none := by
  refine ⟨?_, ?_, ?_, ?_, ?_, ?_, ?_, ?_⟩
  · apply takeD_first
    cases t with
    | nil => simp
    | cons c t => simpa using (h c (by simp)).1
  · have := takeD_tail t [] h rfl
    rwa [List.append_nil] at this
  · exact takeD_tail t _ h (by decide +kernel)
  · exact takeD_tail t _ h (by decide +kernel)
  · rw [takeD_cons, dq_brk _ _ (.inr rfl)]; rfl
  · exact takeD_first _ (by simp)
  · exact takeD_tail t _ h (by decide +kernel)
  · exact takeD_tail t _ h (by decide +kernel)

set_option maxHeartbeats 4000000 in
set_option maxRecDepth 100000 in
theorem walk (a0 : ByteArray) (w : World) (w0 : a0.size ≤ maxLen) (hS : Shorts w) :
    Calls Tryd.prog 4 #[.string a0] w fun e w' => e = .returned (.bool true) ∧ Below w.heap.size w w' := by
  have HS := Lib.hid hS
  clear hS
  go_enter Tryd.func4, Tryd.ntmps4
  go_wp2_with fail
  refine (text_any a0 20 _ (by omega) w0).mono ?_
  rintro e w' ⟨t0, _, ht0, rfl, rfl⟩
  clear w0
  obtain ⟨cap, W1, B⟩ := bytes_of t0 (by omega) w
  have hrun := B.run
  have HB := Lib.hid B
  clear B
  go_wp2_with fail
  clear hrun
  have HR : Hid (∀ q, q < t0.size → ∀ W, Below W1.heap.size W1 W → W.cell? ⟨w.heap.size, q, none⟩ = some (.int .u8 ((byt t0).getD q 0)) ∧ 0 ≤ (byt t0).getD q 0 ∧ (byt t0).getD q 0 < 256) := by
    intro q hq W hW
    have hl : (byt t0).length = t0.size := byt_len t0
    obtain ⟨b, off, e, hc⟩ := (HB.out.rd.below hW).addr (by rw [hl]; omega)
    injection e with e
    injection e with e1 e2
    subst e1 e2
    have := hc q (by rw [hl]; exact hq)
    rw [Nat.zero_add] at this
    exact ⟨this, (byt_byte t0).at_ (by rw [hl]; exact hq)⟩
  have hct := HB.out.le
  have hcx := HB.out.max
  have HBW := Lib.hid HB.out.below
  clear HB
  go_loopw [3, 18] (fun s i W => ∃ (q : Nat) (p : ByteArray), q ≤ t0.size ∧ s = .string p ∧ i = .int .i64 (q : Int) ∧ p.size ≤ q ∧ Hid ((∀ z ∈ byt p, Pl z) ∧ Below W1.heap.size W1 W)) (fun _ i _ => t0.size - (intOf i).toNat)
  case atStart => exact ⟨0, ⟨#[]⟩, by omega, rfl, rfl, by decide, (by intro z hz; simp [byt] at hz), Below.refl _ _⟩
  case round =>
    obtain ⟨q, p, hq, rfl, rfl, hps, HP⟩ := hrel
    obtain ⟨V, hV⟩ : ∃ x, x = wr := ⟨_, rfl⟩
    subst hV
    by_cases hqt : q < t0.size
    · obtain ⟨hcq, hz1, hz2⟩ := HR.out q hqt V HP.out.2
      have dq : (q : Int) < (t0.size : Int) := by omega
      generalize (byt t0).getD q 0 = z at *
      have hcv := run_string_rd (V.alloc (.cells #[.int .u8 z] 5)) (some ⟨V.heap.size, 0, none⟩) 1 1 [z] rfl (RdB.new rfl (fun k y hy => by
        match k with
        | 0 => simp at hy; subst hy; rfl
        | k + 1 => simp at hy))
      have hbz : byt (strOfNums [z]) = [z] := byt_strOfNums _ (by intro y hy; simp at hy; omega)
      generalize strOfNums [z] = r at *
      have hrs : r.size ≤ 1 := by have := byt_len r; rw [hbz] at this; simp at this; omega
      obtain ⟨p2, hp2⟩ : ∃ x, p ++ r = x := ⟨_, rfl⟩
      have hb2' : byt p2 = byt p ++ [z] := by rw [← hp2, byt_append, hbz]
      have hp2s : p2.size ≤ q + 1 := by rw [← hp2, ByteArray.size_append]; omega
      have HP2 := Lib.hid hb2'
      clear hb2' hbz
      by_cases h34 : z = 34
      · subst h34
        go_wp2_with fail
        go_roundw
        case rel => exact ⟨q + 1, p, by omega, rfl, by go_num, by omega, HP.out⟩
        case measure => simp [intOf]; omega
      by_cases h92 : z = 92
      · subst h92
        go_wp2_with fail
        go_roundw
        case rel => exact ⟨q + 1, p, by omega, rfl, by go_num, by omega, HP.out⟩
        case measure => simp [intOf]; omega
      by_cases h10 : z = 10
      · subst h10
        go_wp2_with fail
        go_roundw
        case rel => exact ⟨q + 1, p, by omega, rfl, by go_num, by omega, HP.out⟩
        case measure => simp [intOf]; omega
      by_cases h13 : z = 13
      · subst h13
        go_wp2_with fail
        go_roundw
        case rel => exact ⟨q + 1, p, by omega, rfl, by go_num, by omega, HP.out⟩
        case measure => simp [intOf]; omega
      have e34 : (z != 34) = true := bne_iff_ne.2 h34
      have e92 : (z != 92) = true := bne_iff_ne.2 h92
      have e10 : (z != 10) = true := bne_iff_ne.2 h10
      have e13 : (z != 13) = true := bne_iff_ne.2 h13
      have HZ : Hid (Pl z) := ⟨h34, h10, h13, h92⟩
      clear h34 h92 h10 h13
      go_wp2_with fail
      go_roundw
      case rel => exact ⟨q + 1, p2, by omega, rfl, by go_num, hp2s, (by rw [HP2.out]; intro y hy; rcases List.mem_append.1 hy with g | g; exact HP.out.1 y g; simp at g; subst g; exact HZ.out), HP.out.2.alloc HP.out.2.size _⟩
      case measure => simp [intOf]; omega
    · obtain rfl : q = t0.size := by omega
      have d : decide ((t0.size : Int) < (t0.size : Int)) = false := decide_eq_false (by omega)
      have HBV : Hid (Below w.heap.size w V) := below_step HBW.out HP.out.2
      have HPL := Lib.hid HP.out.1
      clear HP HR HBW hqt
      have hts : p.size ≤ 20 := by omega
      clear hps
      obtain ⟨t, rfl⟩ : ∃ t : ByteArray, t = p := ⟨_, rfl⟩
      obtain ⟨f1, f2, f3, f4, f5, f6, f7, f8⟩ := form_none (byt t) HPL.out
      obtain ⟨x2, hx2⟩ : ∃ x, (⟨#[34]⟩ : ByteArray) ++ t = x := ⟨_, rfl⟩
      obtain ⟨x3, hx3⟩ : ∃ x, x2 ++ (⟨#[92, 34]⟩ : ByteArray) = x := ⟨_, rfl⟩
      obtain ⟨x4, hx4⟩ : ∃ x, x2 ++ (⟨#[10, 34]⟩ : ByteArray) = x := ⟨_, rfl⟩
      obtain ⟨y5, hy5⟩ : ∃ x, (⟨#[34, 13]⟩ : ByteArray) ++ t = x := ⟨_, rfl⟩
      obtain ⟨x5, hx5⟩ : ∃ x, y5 ++ (⟨#[34]⟩ : ByteArray) = x := ⟨_, rfl⟩
      obtain ⟨y6, hy6⟩ : ∃ x, (⟨#[39]⟩ : ByteArray) ++ t = x := ⟨_, rfl⟩
      obtain ⟨x6, hx6⟩ : ∃ x, y6 ++ (⟨#[34]⟩ : ByteArray) = x := ⟨_, rfl⟩
      obtain ⟨x7, hx7⟩ : ∃ x, x2 ++ (⟨#[92, 113, 34]⟩ : ByteArray) = x := ⟨_, rfl⟩
      obtain ⟨x8, hx8⟩ : ∃ x, x2 ++ (⟨#[92, 120, 52, 34]⟩ : ByteArray) = x := ⟨_, rfl⟩
      have z1 : (⟨#[34]⟩ : ByteArray).size = 1 := rfl
      have z2 : (⟨#[92, 34]⟩ : ByteArray).size = 2 := rfl
      have z3 : (⟨#[10, 34]⟩ : ByteArray).size = 2 := rfl
      have z4 : (⟨#[34, 13]⟩ : ByteArray).size = 2 := rfl
      have z5 : (⟨#[39]⟩ : ByteArray).size = 1 := rfl
      have z6 : (⟨#[92, 113, 34]⟩ : ByteArray).size = 3 := rfl
      have z7 : (⟨#[92, 120, 52, 34]⟩ : ByteArray).size = 4 := rfl
      have s2 : x2.size ≤ 21 := by rw [← hx2, ByteArray.size_append]; omega
      have s3 : x3.size ≤ 25 := by rw [← hx3, ByteArray.size_append]; omega
      have s4 : x4.size ≤ 25 := by rw [← hx4, ByteArray.size_append]; omega
      have s5' : y5.size ≤ 22 := by rw [← hy5, ByteArray.size_append]; omega
      have s5 : x5.size ≤ 25 := by rw [← hx5, ByteArray.size_append]; omega
      have s6' : y6.size ≤ 21 := by rw [← hy6, ByteArray.size_append]; omega
      have s6 : x6.size ≤ 25 := by rw [← hx6, ByteArray.size_append]; omega
      have s7 : x7.size ≤ 25 := by rw [← hx7, ByteArray.size_append]; omega
      have s8 : x8.size ≤ 25 := by rw [← hx8, ByteArray.size_append]; omega
      have b2 : byt x2 = 34 :: byt t := by rw [← hx2, byt_append]; rfl
      have b3 : byt x3 = 34 :: (byt t ++ [92, 34]) := by rw [← hx3, byt_append, b2]; rfl
      have b4 : byt x4 = 34 :: (byt t ++ [10, 34]) := by rw [← hx4, byt_append, b2]; rfl
      have b5 : byt x5 = 34 :: 13 :: (byt t ++ [34]) := by rw [← hx5, byt_append, ← hy5, byt_append]; rfl
      have b6 : byt x6 = 39 :: (byt t ++ [34]) := by rw [← hx6, byt_append, ← hy6, byt_append]; rfl
      have b7 : byt x7 = 34 :: (byt t ++ [92, 113, 34]) := by rw [← hx7, byt_append, b2]; rfl
      have b8 : byt x8 = 34 :: (byt t ++ [92, 120, 52, 34]) := by rw [← hx8, byt_append, b2]; rfl
      have hat : ∀ j, j < 15 → ∃ d : ByteArray, (#[Value.string ⟨#[]⟩, .string t, .string x2, .string x3, .string x4, .string x5, .string x6, .string x7, .string x8, .string ⟨#[34, 92, 120, 103, 48, 34]⟩, .string ⟨#[34, 92, 117, 49, 50, 51, 34]⟩, .string ⟨#[34, 92, 117, 100, 56, 48, 48, 34]⟩, .string ⟨#[34, 92, 85, 48, 48, 49, 49, 48, 48, 48, 48, 34]⟩, .string ⟨#[34, 92, 85, 70, 70, 70, 70, 70, 70, 70, 70, 34]⟩, .string ⟨#[34, 92]⟩] : Array Value)[j]? = some (.string d) ∧ d.size ≤ 30 ∧ takeD (byt d) = none := by
        intro j hj
        match j, hj with
        | 0, _ => exact ⟨_, rfl, by decide, rfl⟩
        | 1, _ => exact ⟨_, rfl, by omega, f1⟩
        | 2, _ => exact ⟨_, rfl, by omega, by rw [b2]; exact f2⟩
        | 3, _ => exact ⟨_, rfl, by omega, by rw [b3]; exact f3⟩
        | 4, _ => exact ⟨_, rfl, by omega, by rw [b4]; exact f4⟩
        | 5, _ => exact ⟨_, rfl, by omega, by rw [b5]; exact f5⟩
        | 6, _ => exact ⟨_, rfl, by omega, by rw [b6]; exact f6⟩
        | 7, _ => exact ⟨_, rfl, by omega, by rw [b7]; exact f7⟩
        | 8, _ => exact ⟨_, rfl, by omega, by rw [b8]; exact f8⟩
        | 9, _ => exact ⟨⟨#[34, 92, 120, 103, 48, 34]⟩, rfl, by decide, by decide +kernel⟩
        | 10, _ => exact ⟨⟨#[34, 92, 117, 49, 50, 51, 34]⟩, rfl, by decide, by decide +kernel⟩
        | 11, _ => exact ⟨⟨#[34, 92, 117, 100, 56, 48, 48, 34]⟩, rfl, by decide, by decide +kernel⟩
        | 12, _ => exact ⟨⟨#[34, 92, 85, 48, 48, 49, 49, 48, 48, 48, 48, 34]⟩, rfl, by decide, by decide +kernel⟩
        | 13, _ => exact ⟨⟨#[34, 92, 85, 70, 70, 70, 70, 70, 70, 70, 70, 34]⟩, rfl, by decide, by decide +kernel⟩
        | 14, _ => exact ⟨⟨#[34, 92]⟩, rfl, by decide, by decide +kernel⟩
      have HAT := Lib.hid hat
      have HX2 := Lib.hid b2
      clear hat f1 f2 f3 f4 f5 f6 f7 f8 b2 b3 b4 b5 b6 b7 b8 z1 z2 z3 z4 z5 z6 z7
      go_wp2_with fail
      clear hx3 hx4 hy5 hx5 hy6 hx6 hx7 hx8
      go_loopw [65] (fun i W => ∃ j : Nat, j ≤ 15 ∧ i = .int .i64 (j : Int) ∧ Hid (Below w.heap.size w W ∧ ∀ k v, (#[Value.string ⟨#[]⟩, .string t, .string x2, .string x3, .string x4, .string x5, .string x6, .string x7, .string x8, .string ⟨#[34, 92, 120, 103, 48, 34]⟩, .string ⟨#[34, 92, 117, 49, 50, 51, 34]⟩, .string ⟨#[34, 92, 117, 100, 56, 48, 48, 34]⟩, .string ⟨#[34, 92, 85, 48, 48, 49, 49, 48, 48, 48, 48, 34]⟩, .string ⟨#[34, 92, 85, 70, 70, 70, 70, 70, 70, 70, 70, 34]⟩, .string ⟨#[34, 92]⟩] : Array Value)[k]? = some v → W.cell? ⟨V.heap.size, k, none⟩ = some v)) (fun i _ => 15 - (intOf i).toNat)
      case atStart => exact ⟨0, by omega, rfl, HBV.out.alloc HBV.out.size _, fun k v h => by rw [World.cell?_alloc_mark]; exact h⟩
      case round =>
        obtain ⟨j, hj, rfl, HJ⟩ := hrel
        obtain ⟨X, hX⟩ : ∃ x, x = wr := ⟨_, rfl⟩
        subst hX
        by_cases hlt : j < 15
        · obtain ⟨dd, hd, hds, htk⟩ := HAT.out j hlt
          have hcell := HJ.out.2 j _ hd
          have HTK := Lib.hid htk
          have dj : (j : Int) < 15 := by omega
          clear hd htk
          obtain ⟨cap1, V1, B1⟩ := bytes_of dd (by omega) X
          have r1 := B1.run
          have HB1 := Lib.hid B1
          clear B1
          go_wp2_with fail
          refine (take_any _ dd.size cap1 (byt dd) V1 (byt_len dd) HB1.out.le HB1.out.max (by omega) (byt_byte dd) HB1.out.rd ((HS.out.below HJ.out.1).below HB1.out.below) none HTK.out).mono ?_
          rintro e X1 ⟨v, hv, rfl, hb1⟩
          have HX1 := Lib.hid (below_step HB1.out.below hb1)
          obtain rfl : v = ⟨#[]⟩ := byt_inj (by rw [hv]; rfl)
          clear hb1 r1 HB1 hv hcell
          simp only [tkN, Option.isSome]
          go_wp2_with fail
          go_roundw
          case rel => exact ⟨j + 1, by omega, by go_num, below_step HJ.out.1 HX1.out, fun k v h => cell_keep HX1.out (HJ.out.2 k v h)⟩
          case measure => simp [intOf]; omega
        · obtain rfl : j = 15 := by omega
          have HJ1 := Lib.hid HJ.out.1
          clear HJ HAT
          obtain ⟨y9, hy9⟩ : ∃ x, x2 ++ (⟨#[34]⟩ : ByteArray) = x := ⟨_, rfl⟩
          obtain ⟨x9, hx9⟩ : ∃ x, y9 ++ t = x := ⟨_, rfl⟩
          have z1 : (⟨#[34]⟩ : ByteArray).size = 1 := rfl
          have s9' : y9.size ≤ 22 := by rw [← hy9, ByteArray.size_append]; omega
          have s9 : x9.size ≤ 42 := by rw [← hx9, ByteArray.size_append]; omega
          have HX9 : Hid (byt x9 = 34 :: (byt t ++ 34 :: byt t)) := by
            show _ = _
            rw [← hx9, byt_append, ← hy9, byt_append, HX2.out]
            simp [byt]
          have HT9 : Hid (takeD (34 :: (byt t ++ 34 :: byt t)) = some (byt t, t.size + 2)) := by
            show _ = _
            rw [takeD_cons, dq_plain (byt t) _ HPL.out, dq_quote]
            simp [byt_len]; omega
          clear z1
          obtain ⟨cap1, V1, B1⟩ := bytes_of x9 (by omega) X
          have r1 := B1.run
          have HB1 := Lib.hid B1
          clear B1
          go_wp2_with fail
          refine (take_txt HB1.out HJ1.out HS.out (by omega) _ HX9.out _ HT9.out).mono ?_
          rintro e X1 ⟨v, hv, rfl, hb1⟩
          have HX1 := Lib.hid hb1
          obtain rfl : v = t := byt_inj hv
          clear hb1 r1 HB1 hv hx9 hy9
          simp only [tkN, Option.isSome, Int.natCast_add]
          go_wp2_with fail
          refine (wakes_at HX1.out HS.out).mono ?_
          rintro e X3 ⟨rfl, hb3⟩
          have HX33 := Lib.hid hb3
          clear hb3
          go_wp2_with fail
          go_ret
          exact ⟨rfl, HX33.out⟩


set_option maxRecDepth 100000 in
theorem lifted (os : Os) (started : os.Started) (H : Type) (enc : TypeId × Value → H) :
    ReturnsInHanded {} Tryd.checked os 4 .any (fun w args => (Rows.doubleFormsSpec.pre enc Tryd.prog Tryd.f4 Rows.doubleFormsRow.domain false w args ∧ laidMetH Tryd.prog Rows.doubleFormsRow.laid w) ∧ sizedMet enc Tryd.prog Tryd.f4 (OpenSpec.ofChange Rows.doubleFormsSpec) false w args)
      (Rows.doubleFormsSpec.post enc Tryd.prog Tryd.f4 false true false false) := by
  refine returns_listed (C := Tryd.checked) (X := fun w _ => laidMetH Tryd.prog Rows.doubleFormsRow.laid w) (fun _ _ _ hh h => h.of_heap hh) own started (by kernel_rfl) Tryd.func4
    (ChangeSpec.witness_shaped (enc := enc) (C := Tryd.checked) (os := os) (X := fun w _ => laidMetH Tryd.prog Rows.doubleFormsRow.laid w) false (World.laidAll Tryd.prog os Rows.doubleFormsRow.laid) #[.string ByteArray.empty] 8 (World.laidAll_os _ _ _)
      (World.shaped_of_ZipB (by kernel_rfl) (by kernel_rfl)) (by kernel_rfl) (by kernel_rfl) (by kernel_rfl)
      (by rw [MakeChecks.laidMetH_plain _ _ _ (by kernel_rfl)]; exact laidMet_laidAll _ (by kernel_rfl) (by kernel_rfl))) ?_
  intro W base args ds gs before hval0 hW hX hsh
  have hval : ∀ (j : Nat) t v, Tryd.f4.params[j]? = some t → args[j]? = some v → Value.okWide Tryd.prog W .any base t v := hval0
  have hW' := hW
  obtain ⟨p, q, hA0, hV, rfl, hfz, hnd⟩ := hW
  have hA : DataW.TrodAll enc Tryd.prog W 0 (fun _ => true) true Tryd.f4.params.toList args.toList ds p := hA0
  rw [Tryd.params4] at hA hval
  obtain ⟨v0, vs0, d0, ds0, p0, q0, hargs, rfl, rfl, h0, r0⟩ := trodAll_cons hA
  obtain ⟨rfl, rfl, rfl⟩ := trodAll_nil r0
  obtain rfl : args = #[v0] := by cases args; simp_all
  obtain ⟨rfl, rfl⟩ := trodVars_none hV
  obtain ⟨a0, rfl, rfl, rfl, w0⟩ := open_string Tryd.underlying9 (hval 0 9 v0 rfl rfl) h0
  clear hA0 hval0
  refine (walk a0 W w0 (shorts_laid hX)).mono fun e W' ⟨he, bel⟩ => ?_
  subst he
  exact ⟨_, rfl, _, _, _, [], _, [], hW', trodAll_mk1 (shut_bool Tryd.underlying4 _), (trodAll_cons_mk (shut_string Tryd.underlying9 w0) trodAll_mk0), rfl, bel.frame _, fun h => by cases h⟩

theorem over : Rows.doubleFormsRow.holds Tryd.pinned (OpenSpec.ofChange Rows.doubleFormsSpec) :=
  OpenClaim.holds_of_wide 4 Tryd.f4 rfl rfl rfl rfl rfl rfl rfl ⟨rfl, rfl, rfl, rfl, rfl⟩ rfl rfl rfl rfl rfl (by kernel_rfl) Tryd.func4 (by kernel_rfl)
    (of_decide_eq_true (by kernel_rfl)) (by unfold Func.isWrapper; first | (rw [if_pos (by decide +kernel)]; kernel_rfl) | (rw [if_neg (by decide +kernel)]; exact ⟨rfl, rfl⟩))
    (fun os started H enc _ => lifted os started H enc)

theorem proved : Rows.DoubleFormsCardSaid :=
  Claim7.holds_tied_plain_at .later [] [.data] true (true, "ab909530bb952c5f780ce0eaafa1f0b2631ff06e5414448791499cdd5477867f") false over (fun _ h => by cases h) (by kernel_rfl) (fun _ h => by cases h) doubleForms_row_tie rfl ⟨rfl, rfl⟩ (by kernel_rfl) rfl
    (fun f fn hf hfn => by
      obtain rfl : f = 4 := Option.some.inj ((show Tryd.prog.funcNamed Rows.doubleFormsRow.func = some 4 by kernel_rfl).symm.trans hf) |>.symm
      obtain rfl : fn = Tryd.f4 := (Option.some.inj (Tryd.func4.symm.trans hfn)).symm
      exact ⟨by kernel_rfl, fun j t ht => by
        rw [Tryd.params4] at ht
        have hm : t ∈ [9] := by simpa using Array.mem_of_getElem? ht
        have hall : ([9].all fun u => !Tryd.prog.wantsStandIn u) = true := by kernel_rfl
        exact (show Tryd.prog.wantsStandIn t = false by simpa using List.all_eq_true.1 hall t hm)⟩)
    (by kernel_rfl)
#print axioms proved
end Go.Proofs.YtgiloooandiokaaDoor.doubleForms
