/-
  Proved: the law 'scholium/scholiumlaw07.FoldSigns' returns true for every input, and every argument reads as it did before. No conditions.
-/
import Derived.Test.YtodnfdkcmhiljaaRows
import Derived.Test.YtodnfdkcmhiljaaFdReg
import Derived.Test.YtodnfdkcmhiljaaKeep
import Derived.WalkKit
import Derived.ProofKit
import Derived.OpenShut
import Derived.ShutString
import Derived.ChangeOld
import Derived.Below
namespace Go.Proofs.Ytodnfdkcmhiljaa.foldSigns
open Go.ChangeShapes Go.WideShapes Go.ChangeAt Go.RowKit
open Go.ChangeMaps (open_string shut_string)
set_option linter.unusedVariables false

theorem own : ownKnob Try.prog.godebug = none := by kernel_rfl
theorem laidOut : laidOutB Try.prog = true := by kernel_rfl

/-- A slice of integers that came in. -/
def IsRow (k : IntKind) (w : World) (a : Option Addr) (len cap : Nat) (zs : List Int) : Prop :=
  (a = none ∧ len = 0 ∧ cap = 0 ∧ zs = []) ∨
  ∃ x, a = some x ∧ len ≤ cap ∧ cap ≤ maxLen ∧ zs.length = cap ∧ (∀ i, i < zs.length → w.cell? (x.add i) = some (.int k (zs.getD i 0))) ∧ ∀ n ∈ zs, (Lit.int k n).wf = true

def sgn (k : Nat) : List Int := if k = 0 then [] else if k = 1 then [45] else [43]
def dig (d : Nat) : List Int := if d = 0 then [] else [48 + (d : Int)]
/-- What may stand behind a header. -/
def Tl (t : List Int) : Prop := t = [] ∨ ∃ c r, t = c :: r ∧ c ≠ 45 ∧ c ≠ 43 ∧ ¬ (49 ≤ c ∧ c ≤ 57)
theorem go_tl (h : Hd) (t : List Int) (ht : Tl t) : hdGo h t = (h, 0) := by
  rcases ht with rfl | ⟨c, r, rfl, h1, h2, h3⟩
  · rfl
  · apply hdGo_stop
    unfold withF
    rw [if_neg (by rintro ⟨g | g, _⟩; exact h1 g; exact h2 g), if_neg (by rintro ⟨g1, g2, _⟩; exact h3 ⟨g1, g2⟩)]
theorem signs_go (fo : Bool) (k d : Nat) (hk : k < 3) (hd : d < 10) (turn : Bool) (t : List Int) (ht : Tl t) :
    hdGo ⟨fo, false, false, 0⟩ ((if turn = true then dig d ++ sgn k else sgn k ++ dig d) ++ t) = (⟨fo, decide (k = 1), decide (k = 2), d⟩, (sgn k).length + (dig d).length) := by
  have hg := fun h => go_tl h t ht
  have hw : ∀ h : Hd, h.dg = 0 → 0 < d → withF h (48 + (d : Int)) = some ⟨h.fo, h.st, h.ke, d⟩ := by
    intro h h0 hp
    unfold withF
    rw [if_neg (by rintro ⟨g | g, _⟩ <;> omega), if_pos ⟨by omega, by omega, h0⟩]
    simp only [Option.some.injEq, Hd.mk.injEq, true_and]
    omega
  have h45 : ∀ h : Hd, h.st = false → h.ke = false → withF h 45 = some ⟨h.fo, true, false, h.dg⟩ := by
    intro h h1 h2; unfold withF; rw [if_pos ⟨.inl rfl, h1, h2⟩]; rfl
  have h43 : ∀ h : Hd, h.st = false → h.ke = false → withF h 43 = some ⟨h.fo, false, true, h.dg⟩ := by
    intro h h1 h2; unfold withF; rw [if_pos ⟨.inr rfl, h1, h2⟩]; rfl
  have hk3 : k = 0 ∨ k = 1 ∨ k = 2 := by omega
  by_cases hd0 : d = 0
  · subst hd0
    rcases hk3 with rfl | rfl | rfl <;> cases turn <;> simp [sgn, dig, hdGo, hg, h45, h43]
  · have hp : 0 < d := by omega
    rcases hk3 with rfl | rfl | rfl <;> cases turn <;> simp [sgn, dig, hdGo, hg, h45, h43, hd0, hw, hp]
theorem signs_take (fo : Bool) (k d : Nat) (hk : k < 3) (hd : d < 10) (turn : Bool) (t : List Int) (ht : Tl t) :
    tkH ((if fo = true then 62 else 124) :: ((if turn = true then dig d ++ sgn k else sgn k ++ dig d) ++ t)) = (⟨fo, decide (k = 1), decide (k = 2), d⟩, (sgn k).length + (dig d).length + 1, true) := by
  have := signs_go fo k d hk hd turn t ht
  rw [tkH_some _ (by cases fo <;> simp)]
  cases fo <;> simp [this] <;> simp_all
theorem tdiv_bd (a : Int) (k : Int) (hk : 1 ≤ k) (h : -9223372036854775808 ≤ a ∧ a ≤ 9223372036854775807) : -9223372036854775808 ≤ a.tdiv k ∧ a.tdiv k ≤ 9223372036854775807 := by
  have h1 : (a.tdiv k).natAbs ≤ a.natAbs := by rw [Int.natAbs_tdiv]; exact Nat.div_le_self _ _
  rcases Int.le_total 0 a with h0 | h0
  · have h2 : 0 ≤ a.tdiv k := Int.tdiv_nonneg h0 (by omega)
    omega
  · have h2 : 0 ≤ (-a).tdiv k := Int.tdiv_nonneg (by omega) (by omega)
    rw [Int.neg_tdiv] at h2
    omega

/-- The sign, as a text. -/
def sgnS (k : Nat) : ByteArray := if k = 0 then ⟨#[]⟩ else if k = 1 then ⟨#[45]⟩ else ⟨#[43]⟩

set_option maxHeartbeats 4000000 in
set_option maxRecDepth 100000 in
theorem walk (a0 : Int) (a1 : Bool) (a2 : ByteArray) (w : World) (w0 : (Lit.int .i64 a0).wf = true) (w2 : a2.size ≤ maxLen) :
    Calls Try.prog 3 #[.int .i64 a0, .bool a1, .string a2] w fun e w' => e = .returned (.bool true) ∧ Below w.heap.size w w' := by
  have hb0 := bounds_i64 w0
  clear w0
  have hq2 := tdiv_bd a0 2 (by omega) hb0
  have hq6 := tdiv_bd a0 6 (by omega) hb0
  obtain ⟨k, hk, hk3⟩ : ∃ k : Nat, (a0.tdiv 2) % 3 = (k : Int) ∧ k < 3 := ⟨((a0.tdiv 2) % 3).toNat, by omega, by omega⟩
  obtain ⟨d, hd, hd10⟩ : ∃ d : Nat, (a0.tdiv 6) % 10 = (d : Int) ∧ d < 10 := ⟨((a0.tdiv 6) % 10).toNat, by omega, by omega⟩
  have r2 : IntKind.i64.wrap (a0.tdiv 2) = a0.tdiv 2 := IntWalk.i64_in _ (by omega)
  have r6 : IntKind.i64.wrap (a0.tdiv 6) = a0.tdiv 6 := IntWalk.i64_in _ (by omega)
  obtain ⟨fo, hfo⟩ : ∃ fo, (a0.tmod 2 != 0) = fo := ⟨_, rfl⟩
  go_enter Try.func3, Try.ntmps3
  go_upto_region 2 with fail
  go_cut [8, 9] (fun s t W => s = .string (sgnS k) ∧ t = .int .i64 (d : Int) ∧ Hid (Below w.heap.size w W))
  case first =>
    obtain rfl | rfl | rfl : k = 0 ∨ k = 1 ∨ k = 2 := by omega
    all_goals
      go_region_with (go_at_call 12; refine (within_any _ _ _ (by omega) (by omega) (by assumption)).mono ?_; rintro e w' ⟨rfl, rfl⟩)
      all_goals
        go_wp2_with fail
        go_meet
        refine ⟨?_, ?_, ?_⟩
        · first | rfl | simp [sgnS]
        · first | rfl | rw [hd] | simp [hd]
        · first | exact ((Below.refl _ _).alloc (Nat.le_refl _) _).drew | exact ((Below.refl _ _).drew.alloc (Nat.le_refl _) _)
  case rest =>
    obtain ⟨rfl, rfl, HW⟩ := hcut
    obtain ⟨S, hS⟩ : ∃ S, sgnS k = S := ⟨_, rfl⟩
    obtain ⟨st, hst⟩ : ∃ st, decide (k = 1) = st := ⟨_, rfl⟩
    obtain ⟨kp, hkp⟩ : ∃ kp, decide (k = 2) = kp := ⟨_, rfl⟩
    have hSf : byt S = sgn k ∧ S.size ≤ 1 ∧ (S.toList == ([45] : List UInt8)) = st ∧ (S.toList == ([43] : List UInt8)) = kp := by
      rw [← hS, ← hst, ← hkp]
      obtain rfl | rfl | rfl : k = 0 ∨ k = 1 ∨ k = 2 := by omega
      · decide +kernel
      · decide +kernel
      · decide +kernel
    obtain ⟨hSb, hSs, hS45, hS43⟩ := hSf
    rw [hS]
    have HSB := Lib.hid (And.intro hSb (And.intro hst hkp))
    have HS4 := Lib.hid (And.intro hS45 hS43)
    clear hS hSb hst hkp hS45 hS43
    go_upto_if 39 with fail
    go_cut [11] (fun s W => ∃ D : ByteArray, s = .string D ∧ D.size ≤ 1 ∧ Hid (byt D = dig d ∧ Below w.heap.size w W))
    case first =>
      by_cases hd0 : 0 < d
      · have dd : (0 : Int) < (d : Int) := by omega
        have hcv := run_string_rd (wc.alloc (.cells #[.int .u8 (48 + (d : Int))] 5)) (some ⟨wc.heap.size, 0, none⟩) 1 1 [48 + (d : Int)] rfl (RdB.new rfl (cellsB_at (zs := [48 + (d : Int)])))
        have hbz : byt (strOfNums [48 + (d : Int)]) = [48 + (d : Int)] := byt_strOfNums _ (by intro y hy; simp at hy; omega)
        generalize strOfNums [48 + (d : Int)] = r at *
        have hrs : r.size ≤ 1 := by have := byt_len r; rw [hbz] at this; simp at this; omega
        have HZ := Lib.hid hbz
        clear hbz
        go_wp2_with fail
        go_meet
        exact ⟨r, rfl, hrs, (by rw [HZ.out, dig, if_neg (by omega)]), HW.out.alloc HW.out.size _⟩
      · have dd : ¬ 0 < d := hd0
        have dd1 : decide (0 < d) = false := decide_eq_false hd0
        have HD0 : Hid (d = 0) := by show d = 0; omega
        go_wp2_with fail
        go_meet
        exact ⟨⟨#[]⟩, rfl, by decide, (by rw [dig, if_pos HD0.out]; rfl), HW.out⟩
    case rest =>
      clear HW
      obtain ⟨D, rfl, hDs, HD⟩ := hcut
      obtain ⟨W1, hW1⟩ : ∃ x, x = wc := ⟨_, rfl⟩
      subst hW1
      go_upto_if 45 with fail
      go_cut [10, 11] (fun s t W => ∃ X Y : ByteArray, s = .string X ∧ t = .string Y ∧ X.size + Y.size ≤ 2 ∧ W = W1 ∧ Hid (byt X ++ byt Y = if a1 = true then dig d ++ sgn k else sgn k ++ dig d))
      case first =>
        cases a1 with
        | true =>
          go_wp2_with fail
          go_meet
          exact ⟨D, S, rfl, rfl, by omega, rfl, (by rw [HD.out.1, HSB.out.1]; rfl)⟩
        | false =>
          go_wp2_with fail
          go_meet
          exact ⟨S, D, rfl, rfl, by omega, rfl, (by rw [HD.out.1, HSB.out.1]; rfl)⟩
      case rest =>
        obtain ⟨X, Y, rfl, rfl, hXY, rfl, HXY⟩ := hcut
        obtain ⟨W2, hW2⟩ : ∃ x, x = wc := ⟨_, rfl⟩
        subst hW2
        go_upto_if 48 with fail
        go_cut [12] (fun s W => ∃ Z : ByteArray, s = .string Z ∧ Z.size ≤ 1 ∧ W = W2 ∧ Hid (byt Z = [if fo = true then 62 else 124]))
        case first =>
          cases fo with
          | true =>
            go_wp2_with fail
            go_meet
            exact ⟨⟨#[62]⟩, rfl, by decide, rfl, rfl⟩
          | false =>
            go_wp2_with fail
            go_meet
            exact ⟨⟨#[124]⟩, rfl, by decide, rfl, rfl⟩
        case rest =>
          obtain ⟨Z, rfl, hZs, rfl, HZ⟩ := hcut
          obtain ⟨u, hu⟩ : ∃ u, Z ++ (X ++ Y) = u := ⟨_, rfl⟩
          have hus : u.size ≤ 3 := by rw [← hu, ByteArray.size_append, ByteArray.size_append]; omega
          have hub : byt u = (if fo = true then 62 else 124) :: (if a1 = true then dig d ++ sgn k else sgn k ++ dig d) := by
            rw [← hu, byt_append, byt_append, HZ.out, HXY.out]; rfl
          have HU := Lib.hid hub
          clear hub
          go_wp2_with fail
          clear hu
          refine (text_any a2 5 _ (by omega) w2).mono ?_
          rintro e w' ⟨t, _, ht, rfl, rfl⟩
          obtain ⟨W3, hW3⟩ : ∃ x, x = wc := ⟨_, rfl⟩
          subst hW3
          obtain ⟨bb, hbb⟩ : ∃ bb : Bool, (bb = true → ¬ Tl (byt t)) ∧ (bb = false → Tl (byt t)) := by
            by_cases h : Tl (byt t)
            · exact ⟨false, fun h' => (by cases h'), fun _ => h⟩
            · exact ⟨true, fun _ => h, fun h' => (by cases h')⟩
          have hyes : Tl (byt t) → Value.bool false = Value.bool bb := fun h => by cases bb; rfl; exact absurd h (hbb.1 rfl)
          have hno : ¬ Tl (byt t) → Value.bool true = Value.bool bb := fun h => by cases bb; exact absurd (hbb.2 rfl) h; rfl
          have HBB := Lib.hid (And.intro hbb (And.intro hyes hno))
          clear hbb hyes hno
          go_upto_region 13 with fail
          go_cut [78] (fun s W => s = .bool bb ∧ W = W3)
          case first =>
            by_cases ht0 : 0 < t.size
            · have dt : (0 : Int) < (t.size : Int) := by omega
              have hc0 := byt_at t 0 ht0
              obtain ⟨c, hc⟩ : ∃ c : Int, (t[0].toNat : Int) = c := ⟨_, rfl⟩
              rw [hc] at hc0
              have hbt : byt t = c :: (byt t).drop 1 := by
                cases hb : byt t with
                | nil => rw [hb] at hc0; simp at hc0
                | cons a r => rw [hb] at hc0; simp at hc0; simp [hc0]
              have HBT := Lib.hid hbt
              have hnt : (c = 45 ∨ c = 43 ∨ (49 ≤ c ∧ c ≤ 57)) → ¬ Tl (byt t) := by
                rintro h (h' | ⟨c', r, h', n1, n2, n3⟩)
                · rw [h'] at hc0; simp at hc0
                · rw [h'] at hc0; simp at hc0; subst hc0
                  rcases h with h | h | h
                  · exact n1 h
                  · exact n2 h
                  · exact n3 h
              have HNT := Lib.hid hnt
              clear hbt hc0 hnt
              have ways : c = 45 ∨ c = 43 ∨ (49 ≤ c ∧ c ≤ 57) ∨ (c ≠ 45 ∧ c ≠ 43 ∧ c < 49) ∨ (c ≠ 45 ∧ c ≠ 43 ∧ 57 < c) := by omega
              rcases ways with rfl | rfl | ⟨g1, g2⟩ | ⟨g1, g2, g3⟩ | ⟨g1, g2, g3⟩
              · go_wp2_with fail
                go_meet
                exact ⟨HBB.out.2.2 (HNT.out (by simp)), rfl⟩
              · go_wp2_with fail
                go_meet
                exact ⟨HBB.out.2.2 (HNT.out (by simp)), rfl⟩
              · have f1 : (c == 45) = false := beq_eq_false_iff_ne.2 (by omega)
                have f2 : (c == 43) = false := beq_eq_false_iff_ne.2 (by omega)
                go_wp2_with fail
                go_meet
                exact ⟨HBB.out.2.2 (HNT.out (.inr (.inr ⟨g1, g2⟩))), rfl⟩
              · have f1 : (c == 45) = false := beq_eq_false_iff_ne.2 g1
                have f2 : (c == 43) = false := beq_eq_false_iff_ne.2 g2
                have f3 : decide (49 ≤ c) = false := decide_eq_false (by omega)
                have f4 : ¬ 49 ≤ c := by omega
                go_wp2_with fail
                go_meet
                exact ⟨HBB.out.2.1 (.inr ⟨c, _, HBT.out, g1, g2, by omega⟩), rfl⟩
              · have f1 : (c == 45) = false := beq_eq_false_iff_ne.2 g1
                have f2 : (c == 43) = false := beq_eq_false_iff_ne.2 g2
                have f0 : 49 ≤ c := by omega
                have f3 : decide (c ≤ 57) = false := decide_eq_false (by omega)
                have f4 : ¬ c ≤ 57 := by omega
                go_wp2_with fail
                go_meet
                exact ⟨HBB.out.2.1 (.inr ⟨c, _, HBT.out, g1, g2, by omega⟩), rfl⟩
            · have dt : ¬ 0 < t.size := ht0
              have dt1 : decide (0 < t.size) = false := decide_eq_false ht0
              have HT0 : Hid (byt t = []) := by show byt t = []; exact List.eq_nil_of_length_eq_zero (by rw [byt_len]; omega)
              go_wp2_with fail
              go_meet
              exact ⟨HBB.out.2.1 (.inl HT0.out), rfl⟩
          case rest =>
          obtain ⟨rfl, rfl⟩ := hcut
          obtain ⟨W3, hW3⟩ : ∃ x, x = wc := ⟨_, rfl⟩
          subst hW3
          go_upto_if 78 with fail
          go_cut [2] (fun s W => ∃ v : ByteArray, s = .string v ∧ v.size ≤ 6 ∧ W = W3 ∧ Hid (Tl (byt v)))
          case first =>
            obtain ⟨y, hy⟩ : ∃ y, (⟨#[32]⟩ : ByteArray) ++ t = y := ⟨_, rfl⟩
            have hys : y.size ≤ 6 := by rw [← hy, ByteArray.size_append]; show 1 + t.size ≤ 6; omega
            have HYB : Hid (byt y = 32 :: byt t) := by show byt y = _; rw [← hy, byt_append]; rfl
            cases bb with
            | true =>
              go_wp2_with fail
              go_meet
              exact ⟨y, rfl, hys, rfl, .inr ⟨32, byt t, HYB.out, by omega, by omega, by omega⟩⟩
            | false =>
              go_wp2_with fail
              go_meet
              exact ⟨t, rfl, by omega, rfl, HBB.out.1.2 (by simp)⟩
          case rest =>
            obtain ⟨v, rfl, hvs, rfl, HV⟩ := hcut
            have htk := signs_take fo k d hk3 hd10 a1 (byt v) HV.out
            obtain ⟨y, hy⟩ : ∃ y, u ++ v = y := ⟨_, rfl⟩
            have hys : y.size ≤ 9 := by rw [← hy, ByteArray.size_append]; omega
            have hyb : byt y = (if fo = true then 62 else 124) :: ((if a1 = true then dig d ++ sgn k else sgn k ++ dig d) ++ byt v) := by rw [← hy, byt_append, HU.out]; rfl
            rw [← hyb] at htk
            have hsz : (sgn k).length + (dig d).length + 1 = u.size := by
              rw [← byt_len, HU.out, List.length_cons]; cases a1 <;> simp <;> omega
            rw [hsz, HSB.out.2.1, HSB.out.2.2] at htk
            have HTK := Lib.hid htk
            clear htk hyb hsz
            obtain ⟨W4, hW4⟩ : ∃ x, x = wc := ⟨_, rfl⟩
            subst hW4
            obtain ⟨cap1, V1, hrun1, hle1, hmax1, hrd1, hbel1⟩ := bytes_of y (by omega) W4
            have HLy : Hid ((byt y).length = y.size) := byt_len y
            have HYy := Lib.hid (byt_byte y)
            have HV1 := Lib.hid hbel1
            have HR1 := Lib.hid hrd1
            clear hrd1 hbel1
            go_wp2_with fail
            clear hrun1 hy
            refine (takeHeader_any _ y.size cap1 (byt y) V1 HLy.out hle1 hmax1 HYy.out HR1.out).mono ?_
            rintro e V2 ⟨rfl, hb2⟩
            rw [HTK.out]
            simp only [hdV]
            obtain ⟨V3, hV3⟩ : ∃ x, V2.alloc (.cells #[.bool fo, .bool st, .bool kp, .int .i64 (d : Int)] 27) = x := ⟨_, rfl⟩
            have hg3 : V3.heap[V2.heap.size]? = some (.cells #[.bool fo, .bool st, .bool kp, .int .i64 (d : Int)] 27) := by rw [← hV3]; exact heap_alloc_new _ _
            have hs3 : V2.heap.size < V3.heap.size := by rw [← hV3]; simp
            have HB3 : Hid (Below W4.heap.size W4 V3) := by rw [← hV3]; exact (below_step HV1.out hb2).alloc (below_step HV1.out hb2).size _
            have HG3 : Hid (∀ X, Below V3.heap.size V3 X → X.cell? ⟨V2.heap.size, 0, none⟩ = some (.bool fo) ∧ X.cell? ⟨V2.heap.size, 1, none⟩ = some (.bool st) ∧ X.cell? ⟨V2.heap.size, 2, none⟩ = some (.bool kp) ∧ X.cell? ⟨V2.heap.size, 3, none⟩ = some (.int .i64 (d : Int))) := fun X hX => by
              have := (hX.block _ hs3).trans hg3
              refine ⟨?_, ?_, ?_, ?_⟩ <;> simp [World.cell?, this]
            clear hb2 hg3
            obtain ⟨x, hx⟩ : ∃ x, (⟨#[120]⟩ : ByteArray) ++ u = x := ⟨_, rfl⟩
            have hxs : x.size ≤ 4 := by rw [← hx, ByteArray.size_append]; show 1 + u.size ≤ 4; omega
            have HXB : Hid (byt x = 120 :: byt u) := by show byt x = _; rw [← hx, byt_append]; rfl
            obtain ⟨cap4, V4, hrun4, hle4, hmax4, hrd4, hbel4⟩ := bytes_of x (by omega) V3
            have HLx : Hid ((byt x).length = x.size) := byt_len x
            have HYx := Lib.hid (byt_byte x)
            have HB4 := Lib.hid hbel4
            have HR4 := Lib.hid hrd4
            clear hrd4 hbel4
            go_wp2_with fail
            clear hrun4 hx hV3
            refine (takeHeader_any _ x.size cap4 (byt x) V4 HLx.out hle4 hmax4 HYx.out HR4.out).mono ?_
            rintro e V5 ⟨rfl, hb5⟩
            rw [tkH_none (byt x) (by rw [HXB.out]; simp) (by rw [HXB.out]; simp)]
            simp only [hdV, Hd.nil]
            have HB5 := Lib.hid (below_step HB4.out hb5)
            clear hb5
            have kc : ∀ (V : World) (o : Obj) (C : Array Value) (n c : Nat), (convert 24 24 (.slice (some ⟨V.heap.size + 1, 0, none⟩) n c)).run Try.prog ((V.alloc o).alloc (.cells C 5)) = .ok (.slice (some ⟨V.heap.size + 1, 0, none⟩) n c) ((V.alloc o).alloc (.cells C 5 (C.size, C.size + 1))) := fun V o C n c => by
              have := Lib.run_convert_bytes_const (P := Try.prog) (V.alloc o) 24 5 C n c Try.underlying24 Try.underlying5
              rwa [show (V.alloc o).heap.size = V.heap.size + 1 by simp] at this
            go_wp2_with fail
            have hb6 : Below V3.heap.size V3 ((V5.alloc (.cells #[.bool false, .bool false, .bool false, .int .i64 0] 27)).alloc (.cells #[.int .u8 124, .int .u8 45, .int .u8 45] 5 (3, 4))) := (HB5.out.alloc HB5.out.size _).alloc (by have := HB5.out.size; simp; omega) _
            refine (takeHeader_any (some ⟨V5.heap.size + 1, 0, none⟩) 3 3 [124, 45, 45] ((V5.alloc (.cells #[.bool false, .bool false, .bool false, .int .i64 0] 27)).alloc (.cells #[.int .u8 124, .int .u8 45, .int .u8 45] 5 (3, 4))) rfl (by omega) (by omega) (by intro z hz; simp at hz; omega) (RdB.new (by simp) three_at)).mono ?_
            rintro e V8 ⟨rfl, hb8⟩
            rw [show tkH [124, 45, 45] = (⟨false, true, false, 0⟩, 2, true) by decide]
            simp only [hdV]
            have HB8 := Lib.hid (below_step hb6 hb8)
            clear hb6 hb8
            go_wp2_with fail
            have hb9 : Below V3.heap.size V3 ((V8.alloc (.cells #[.bool false, .bool true, .bool false, .int .i64 0] 27)).alloc (.cells #[.int .u8 62, .int .u8 49, .int .u8 50] 5 (3, 4))) := (HB8.out.alloc HB8.out.size _).alloc (by have := HB8.out.size; simp; omega) _
            refine (takeHeader_any (some ⟨V8.heap.size + 1, 0, none⟩) 3 3 [62, 49, 50] ((V8.alloc (.cells #[.bool false, .bool true, .bool false, .int .i64 0] 27)).alloc (.cells #[.int .u8 62, .int .u8 49, .int .u8 50] 5 (3, 4))) rfl (by omega) (by omega) (by intro z hz; simp at hz; omega) (RdB.new (by simp) three_at)).mono ?_
            rintro e V9 ⟨rfl, hb10⟩
            rw [show tkH [62, 49, 50] = (⟨true, false, false, 1⟩, 2, true) by decide]
            simp only [hdV]
            have HB9 := Lib.hid (below_step hb9 hb10)
            obtain ⟨q0, q1, q2, q3⟩ := HG3.out V9 HB9.out
            have hs9 : V2.heap.size < V9.heap.size := Nat.lt_of_lt_of_le hs3 HB9.out.size
            clear hb9 hb10 kc
            have hS45 := HS4.out.1
            have hS43 := HS4.out.2
            go_wp2_with fail
            have hb11 : Below V3.heap.size V3 (V9.alloc (.cells #[.bool true, .bool false, .bool false, .int .i64 1] 27)) := HB9.out.alloc HB9.out.size _
            refine (wakes_any _).mono ?_
            rintro e V12 ⟨rfl, hb12⟩
            have HB12 := Lib.hid (below_step HD.out.2 (below_step HB3.out (below_step hb11 hb12)))
            clear hb11 hb12
            go_wp2
            go_ret
            exact ⟨rfl, HB12.out⟩


set_option maxRecDepth 100000 in
theorem lifted (os : Os) (started : os.Started) (H : Type) (enc : TypeId × Value → H) :
    ReturnsInHanded {} Try.checked os 3 .any (Rows.foldSignsSpec.pre6 enc Try.prog Try.f3 Rows.foldSignsRow.domain false) (Rows.foldSignsSpec.post enc Try.prog Try.f3 false true false false) := by
  refine returnsInHanded_of_change (C := Try.checked) own started (by kernel_rfl) Try.func3
    (ChangeSpec.witness6 (enc := enc) (C := Try.checked) false ⟨#[], #[.int .i64 0, .bool false, .string ByteArray.empty], []⟩ 8 (by kernel_rfl) (by kernel_rfl) (by kernel_rfl) (by kernel_rfl)) ?_
  intro W base args ds gs before hval0 hW hcnd _
  have hval : ∀ (j : Nat) t v, Try.f3.params[j]? = some t → args[j]? = some v → Value.okWide Try.prog W .any base t v := hval0
  have hW' := hW
  obtain ⟨p, q, hA0, hV, rfl, hfz, hnd⟩ := hW
  have hA : DataW.TrodAll enc Try.prog W 0 (fun _ => true) true Try.f3.params.toList args.toList ds p := hA0
  rw [Try.params3] at hA hval
  obtain ⟨v0, vs0, d0, ds0, p0, q0, hargs, rfl, rfl, h0, r0⟩ := trodAll_cons hA
  obtain ⟨v1, vs1, d1, ds1, p1, q1, rfl, rfl, rfl, h1, r1⟩ := trodAll_cons r0
  obtain ⟨v2, vs2, d2, ds2, p2, q2, rfl, rfl, rfl, h2, r2⟩ := trodAll_cons r1
  obtain ⟨rfl, rfl, rfl⟩ := trodAll_nil r2
  obtain rfl : args = #[v0, v1, v2] := by cases args; simp_all
  obtain ⟨rfl, rfl⟩ := trodVars_none hV
  obtain ⟨a0, rfl, rfl, rfl, w0⟩ := open_int Try.underlying3 (hval 0 3 v0 rfl rfl) h0
  obtain ⟨a1, rfl, rfl, rfl⟩ := open_bool Try.underlying4 (hval 1 4 v1 rfl rfl) h1
  obtain ⟨a2, rfl, rfl, rfl, w2⟩ := open_string Try.underlying9 (hval 2 9 v2 rfl rfl) h2
  clear hA0 hval0
  refine (walk a0 a1 a2 W w0 w2).mono fun e W' ⟨he, bel⟩ => ?_
  subst he
  exact ⟨_, rfl, _, _, _, [], _, [], hW', trodAll_mk1 (shut_bool Try.underlying4 _), (trodAll_cons_mk (shut_int Try.underlying3 w0) (trodAll_cons_mk (shut_bool Try.underlying4 _) (trodAll_cons_mk (shut_string Try.underlying9 w2) trodAll_mk0))), rfl, bel.frame _, fun h => by cases h⟩

theorem over : Rows.foldSignsRow.holds Try.pinned (OpenSpec.ofChange Rows.foldSignsSpec) :=
  OpenClaim.holds_of_wide 3 Try.f3 rfl rfl rfl rfl rfl rfl rfl ⟨rfl, rfl, rfl, rfl, rfl⟩ rfl rfl rfl rfl rfl (by kernel_rfl) Try.func3 (by kernel_rfl)
    (of_decide_eq_true (by kernel_rfl)) (by unfold Func.isWrapper; first | (rw [if_pos (by decide +kernel)]; kernel_rfl) | (rw [if_neg (by decide +kernel)]; exact ⟨rfl, rfl⟩))
    (fun os started H enc _ => lifted os started H enc)

theorem proved : Rows.FoldSignsSaid := over
#print axioms proved
end Go.Proofs.Ytodnfdkcmhiljaa.foldSigns
