/-
  Proved: the card of the law 'scholium/scholiumlaw06.DoubleBack' (for every input it returns true, and every argument reads as it did before; the package variables that the row lists are tied to the program's text). No conditions.
-/
import Derived.Test.YtgiloooandiokaaDoorRows
import Derived.Test.YtgiloooandiokaaDoorCards
import Derived.Test.YtgiloooandiokaaDoorTie
import Derived.Test.YtgiloooandiokaaDoorDoor
import Derived.Test.YtgiloooandiokaaDoorDbDoor
import Derived.Test.YtgiloooandiokaaDoorDbLaw
import Derived.Test.YtgiloooandiokaaDoorDbFacts
import Derived.Test.YtgiloooandiokaaDoorDbCheck
import Derived.Test.YtgiloooandiokaaDoorKeep
import Derived.WalkKit
import Derived.ProofKit
import Derived.OpenShut
import Derived.ShutString
import Derived.ChangeOld
import Derived.Below
import Derived.LaidMore
import Derived.Lay
import Derived.SevenTiedAt
namespace Go.Proofs.YtgiloooandiokaaDoor.doubleBack
open Go.ChangeShapes Go.WideShapes Go.ChangeAt Go.RowKit
open Go.ChangeMaps (open_string shut_string)
set_option linter.unusedVariables false

theorem own : ownKnob Tryd.prog.godebug = none := by kernel_rfl
theorem laidOut : laidOutB Tryd.prog = true := by kernel_rfl

/-- A slice of integers that came in. -/
def IsRow (k : IntKind) (w : World) (a : Option Addr) (len cap : Nat) (zs : List Int) : Prop :=
  (a = none ∧ len = 0 ∧ cap = 0 ∧ zs = []) ∨
  ∃ x, a = some x ∧ len ≤ cap ∧ cap ≤ maxLen ∧ zs.length = cap ∧ (∀ i, i < zs.length → w.cell? (x.add i) = some (.int k (zs.getD i 0))) ∧ ∀ n ∈ zs, (Lit.int k n).wf = true

set_option maxHeartbeats 4000000 in
set_option maxRecDepth 100000 in
theorem walk (a0 : ByteArray) (a1 : ByteArray) (w : World) (w0 : a0.size ≤ maxLen) (w1 : a1.size ≤ maxLen) (hS : Shorts w) :
    Calls Tryd.prog 7 #[.string a0, .string a1] w fun e w' => e = .returned (.bool true) ∧ Below w.heap.size w w' := by
  have HS := Lib.hid hS
  have HB0 : Hid (Below w.heap.size w w) := Below.refl _ _
  clear hS
  go_enter Tryd.func7, Tryd.ntmps7
  go_wp2_with fail
  refine (text_any a0 60 _ (by omega) w0).mono ?_
  rintro e w' ⟨s, _, hs, rfl, rfl⟩
  clear w0
  go_wp2_with fail
  refine (text_any a1 10 _ (by omega) w1).mono ?_
  rintro e w' ⟨t, _, ht, rfl, rfl⟩
  clear w1
  obtain ⟨o1, ho1⟩ : ∃ o, putD (byt s) = o := ⟨_, rfl⟩
  have HO1 := Lib.hid ho1
  clear ho1
  go_wp2_with fail
  refine (put_txt HB0.out HS.out (by omega) o1 HO1.out).mono ?_
  rintro e W1 ⟨p, hp, rfl, hb1⟩
  have HB1 := Lib.hid hb1
  have HP := Lib.hid hp
  clear hb1 hp
  cases o1 with
  | none =>
    obtain rfl : p = ⟨#[]⟩ := byt_inj (by rw [HP.out]; rfl)
    clear HP HO1
    go_wp2_with fail
    refine (wakes_at HB1.out HS.out).mono ?_
    rintro e W4 ⟨rfl, hb4⟩
    have HB4 := Lib.hid hb4
    clear hb4
    go_wp2_with fail
    go_ret
    exact ⟨rfl, HB4.out⟩
  | some y =>
    have hp : byt p = y := HP.out
    subst hp
    have ht1 := take_put (byt_byte s) HO1.out (byt t)
    have hz1 := put_size (byt_byte s) HO1.out
    have hfine := fine_put (byt_byte s) HO1.out
    rw [byt_len] at ht1
    rw [byt_len, byt_len] at hz1
    have h34 : (byt p).getD 0 0 = 34 := by
      obtain ⟨x, _, e⟩ := put_some HO1.out
      rw [e]; rfl
    obtain ⟨p0, hp0, hsl⟩ : ∃ p0 : ByteArray, takeD (byt p0) = none ∧ ∀ W, (Instr.slice 9 (.string p) none (some (.int .i64 ((p.size : Int) - 1))) none).run Tryd.prog W = .ok (.string p0) W := by
      refine ⟨p.extract 0 (p.size - 1), ?_, fun W => ?_⟩
      · obtain ⟨x, hx, e⟩ := put_some HO1.out
        rw [byt_extract, List.drop_zero, Nat.sub_zero, ← byt_len, e]
        have h3 : (34 :: (x ++ [34])).length - 1 = (34 :: x).length := by simp
        rw [h3, ← List.cons_append, List.take_left]
        exact take_open (byt_byte s) hx
      · rw [run_slice_string_h (P := Tryd.prog) W 9 p Tryd.underlying9 .i64 _ (by omega) (by omega)]
        congr 3
        omega
    have hp0s : p0.size ≤ 700 := by
      have h1 := hsl w
      rw [run_slice_string_h (P := Tryd.prog) w 9 p Tryd.underlying9 .i64 _ (by omega) (by omega)] at h1
      injection h1 with h1 h2
      injection h1 with h1
      rw [← h1, ByteArray.size_extract]
      omega
    have HP0 := Lib.hid hp0
    obtain ⟨u, hu⟩ : ∃ u, p ++ t = u := ⟨_, rfl⟩
    have hub : byt u = byt p ++ byt t := by rw [← hu, byt_append]
    have HU := Lib.hid hub
    have HTO := Lib.hid ht1
    have HFINE := Lib.hid hfine
    have H34 := Lib.hid h34
    have hps : p.size ≤ 610 := by omega
    have hp2 : 2 ≤ p.size := by omega
    have hus : u.size ≤ 700 := by rw [← hu, ByteArray.size_append]; omega
    have e0 : ((p.size : Int) == 0) = false := beq_eq_false_iff_ne.2 (by omega)
    clear ht1 hz1 hfine h34 hp0 hub HO1 HP
    obtain ⟨cap2, V2, B2⟩ := bytes_of u (by omega) W1
    have r2 := B2.run
    have HBY2 := Lib.hid B2
    clear B2
    go_wp2_with fail
    refine (take_txt HBY2.out HB1.out HS.out (by omega) _ HU.out _ HTO.out).mono ?_
    rintro e W2 ⟨v, hv, rfl, hb2⟩
    have HB2 := Lib.hid hb2
    obtain rfl : v = s := byt_inj hv
    clear hb2 hv r2 HBY2 HU HTO hu
    simp only [tkN, Option.isSome]
    obtain ⟨cap3, V3, B3⟩ := bytes_of p (by omega) W2
    have r3 := B3.run
    have HBY3 := Lib.hid B3
    have HB3 := Lib.hid (below_step HB2.out B3.below)
    have CH := Lib.hid (refCheck_fine _ p.size cap3 (byt p) V3 (byt_len p) (by omega) (by omega) B3.le B3.max (byt_byte p) B3.rd H34.out HFINE.out)
    clear B3
    go_wp2_with fail
    refine CH.out.mono ?_
    rintro e w' ⟨rfl, rfl⟩
    clear r3 HBY3 CH
    go_wp2_with fail
    go_loopw [4] (fun r W => ∃ pos : Nat, pos ≤ p.size ∧ W = V3.iter p pos ∧ r = .bool false) (fun _ W => p.size - W.iterPos V3.heap.size)
    case atStart => exact ⟨0, by omega, rfl, rfl⟩
    case round =>
      obtain ⟨pos, hpos, rfl, rfl⟩ := hrel
      by_cases hlt : pos < p.size
      · obtain ⟨g1, g2, _⟩ := decode_cont p pos hlt
        have hnx : ∀ ty, (Instr.next (.pointer (some ⟨V3.heap.size, 0, none⟩)) true ty).run Tryd.prog (V3.iter p pos) = _ := fun ty => run_next_any V3 p pos ty hlt
        have hix : ∀ W, (Instr.index 9 (.string p) (.int .i64 (pos : Int))).run Tryd.prog W = .ok (.int .u8 (p[pos].toNat : Int)) W := by
          intro W
          rw [run_index_string W 9 p .i64 _ Tryd.underlying9, dif_pos (by omega)]
          simp
        have hne := fine_byte HFINE.out (p[pos].toNat : Int) (List.mem_of_getElem? (byt_at p pos hlt))
        have e9 : ((p[pos].toNat : Int) == 9) = false := beq_eq_false_iff_ne.2 hne.1
        have e10 : ((p[pos].toNat : Int) == 10) = false := beq_eq_false_iff_ne.2 hne.2.1
        have e13 : ((p[pos].toNat : Int) == 13) = false := beq_eq_false_iff_ne.2 hne.2.2
        clear hne
        generalize (Utf8.decode p pos).1 = rr at *
        generalize (Utf8.decode p pos).2 = jj at *
        generalize (p[pos].toNat : Int) = c at *
        go_wp2_with fail
        go_roundw
        case rel => exact ⟨pos + jj, g2, rfl, rfl⟩
        case measure => simp; omega
      · obtain rfl : pos = p.size := by omega
        have hnx : ∀ ty, (Instr.next (.pointer (some ⟨V3.heap.size, 0, none⟩)) true ty).run Tryd.prog (V3.iter p p.size) = _ := fun ty => run_next_end V3 p p.size ty hlt
        have HBI : Hid (Below w.heap.size w (V3.iter p p.size)) := HB3.out.alloc HB3.out.size _
        obtain ⟨X, hX⟩ : ∃ X, V3.iter p p.size = X := ⟨_, rfl⟩
        rw [hX] at HBI hnx
        obtain ⟨cap4, V4, B4⟩ := bytes_of p0 (by omega) X
        have r4 := B4.run
        have HBY4 := Lib.hid B4
        clear B4
        rw [hX]
        clear hX
        go_wp2_with fail
        refine (take_txt HBY4.out HBI.out HS.out (by omega) _ rfl _ HP0.out).mono ?_
        rintro e W5 ⟨v5, hv5, rfl, hb5⟩
        have HB5 := Lib.hid hb5
        clear hb5 hv5 r4 HBY4
        simp only [tkN, Option.isSome]
        go_wp2_with fail
        refine (wakes_at HB5.out HS.out).mono ?_
        rintro e W6 ⟨rfl, hb6⟩
        have HB6 := Lib.hid hb6
        clear hb6
        go_wp2_with fail
        go_ret
        exact ⟨rfl, HB6.out⟩


set_option maxRecDepth 100000 in
theorem lifted (os : Os) (started : os.Started) (H : Type) (enc : TypeId × Value → H) :
    ReturnsInHanded {} Tryd.checked os 7 .any (fun w args => (Rows.doubleBackSpec.pre enc Tryd.prog Tryd.f7 Rows.doubleBackRow.domain false w args ∧ laidMetH Tryd.prog Rows.doubleBackRow.laid w) ∧ sizedMet enc Tryd.prog Tryd.f7 (OpenSpec.ofChange Rows.doubleBackSpec) false w args)
      (Rows.doubleBackSpec.post enc Tryd.prog Tryd.f7 false true false false) := by
  refine returns_listed (C := Tryd.checked) (X := fun w _ => laidMetH Tryd.prog Rows.doubleBackRow.laid w) (fun _ _ _ hh h => h.of_heap hh) own started (by kernel_rfl) Tryd.func7
    (ChangeSpec.witness_shaped (enc := enc) (C := Tryd.checked) (os := os) (X := fun w _ => laidMetH Tryd.prog Rows.doubleBackRow.laid w) false (World.laidAll Tryd.prog os Rows.doubleBackRow.laid) #[.string ByteArray.empty, .string ByteArray.empty] 8 (World.laidAll_os _ _ _)
      (World.shaped_of_ZipB (by kernel_rfl) (by kernel_rfl)) (by kernel_rfl) (by kernel_rfl) (by kernel_rfl)
      (by rw [MakeChecks.laidMetH_plain _ _ _ (by kernel_rfl)]; exact laidMet_laidAll _ (by kernel_rfl) (by kernel_rfl))) ?_
  intro W base args ds gs before hval0 hW hX hsh
  have hval : ∀ (j : Nat) t v, Tryd.f7.params[j]? = some t → args[j]? = some v → Value.okWide Tryd.prog W .any base t v := hval0
  have hW' := hW
  obtain ⟨p, q, hA0, hV, rfl, hfz, hnd⟩ := hW
  have hA : DataW.TrodAll enc Tryd.prog W 0 (fun _ => true) true Tryd.f7.params.toList args.toList ds p := hA0
  rw [Tryd.params7] at hA hval
  obtain ⟨v0, vs0, d0, ds0, p0, q0, hargs, rfl, rfl, h0, r0⟩ := trodAll_cons hA
  obtain ⟨v1, vs1, d1, ds1, p1, q1, rfl, rfl, rfl, h1, r1⟩ := trodAll_cons r0
  obtain ⟨rfl, rfl, rfl⟩ := trodAll_nil r1
  obtain rfl : args = #[v0, v1] := by cases args; simp_all
  obtain ⟨rfl, rfl⟩ := trodVars_none hV
  obtain ⟨a0, rfl, rfl, rfl, w0⟩ := open_string Tryd.underlying9 (hval 0 9 v0 rfl rfl) h0
  obtain ⟨a1, rfl, rfl, rfl, w1⟩ := open_string Tryd.underlying9 (hval 1 9 v1 rfl rfl) h1
  clear hA0 hval0
  refine (walk a0 a1 W w0 w1 (shorts_laid hX)).mono fun e W' ⟨he, bel⟩ => ?_
  subst he
  exact ⟨_, rfl, _, _, _, [], _, [], hW', trodAll_mk1 (shut_bool Tryd.underlying4 _), (trodAll_cons_mk (shut_string Tryd.underlying9 w0) (trodAll_cons_mk (shut_string Tryd.underlying9 w1) trodAll_mk0)), rfl, bel.frame _, fun h => by cases h⟩

theorem over : Rows.doubleBackRow.holds Tryd.pinned (OpenSpec.ofChange Rows.doubleBackSpec) :=
  OpenClaim.holds_of_wide 7 Tryd.f7 rfl rfl rfl rfl rfl rfl rfl ⟨rfl, rfl, rfl, rfl, rfl⟩ rfl rfl rfl rfl rfl (by kernel_rfl) Tryd.func7 (by kernel_rfl)
    (of_decide_eq_true (by kernel_rfl)) (by unfold Func.isWrapper; first | (rw [if_pos (by decide +kernel)]; kernel_rfl) | (rw [if_neg (by decide +kernel)]; exact ⟨rfl, rfl⟩))
    (fun os started H enc _ => lifted os started H enc)

theorem proved : Rows.DoubleBackCardSaid :=
  Claim7.holds_tied_plain_at .later [] [.data] true (true, "ab909530bb952c5f780ce0eaafa1f0b2631ff06e5414448791499cdd5477867f") false over (fun _ h => by cases h) (by kernel_rfl) (fun _ h => by cases h) doubleBack_row_tie rfl ⟨rfl, rfl⟩ (by kernel_rfl) rfl
    (fun f fn hf hfn => by
      obtain rfl : f = 7 := Option.some.inj ((show Tryd.prog.funcNamed Rows.doubleBackRow.func = some 7 by kernel_rfl).symm.trans hf) |>.symm
      obtain rfl : fn = Tryd.f7 := (Option.some.inj (Tryd.func7.symm.trans hfn)).symm
      exact ⟨by kernel_rfl, fun j t ht => by
        rw [Tryd.params7] at ht
        have hm : t ∈ [9, 9] := by simpa using Array.mem_of_getElem? ht
        have hall : ([9, 9].all fun u => !Tryd.prog.wantsStandIn u) = true := by kernel_rfl
        exact (show Tryd.prog.wantsStandIn t = false by simpa using List.all_eq_true.1 hall t hm)⟩)
    (by kernel_rfl)
#print axioms proved
end Go.Proofs.YtgiloooandiokaaDoor.doubleBack
