/-
  Proved: the card of the law 'scholium/scholiumlaw09.StyleKeys' (for every input it returns true, and every argument reads as it did before; the package variables that the row lists are tied to the program's text). No conditions.
-/
import Derived.Test.YtdjpdcjljpmfnaaDoorRows
import Derived.Test.YtdjpdcjljpmfnaaDoorCards
import Derived.Test.YtdjpdcjljpmfnaaDoorTie
import Derived.Test.YtdjpdcjljpmfnaaDoorDoor
import Derived.Test.YtdjpdcjljpmfnaaDoorDbDoor
import Derived.Test.YtdjpdcjljpmfnaaDoorStRef
import Derived.Test.YtdjpdcjljpmfnaaDoorKeep
import Derived.WalkKit
import Derived.ProofKit
import Derived.OpenShut
import Derived.ShutString
import Derived.ChangeOld
import Derived.Below
import Derived.LaidMore
import Derived.Lay
import Derived.SevenTiedAt
namespace Go.Proofs.YtdjpdcjljpmfnaaDoor.styleKeys
open Go.ChangeShapes Go.WideShapes Go.ChangeAt Go.RowKit
open Go.ChangeMaps (open_string shut_string)
set_option linter.unusedVariables false

theorem own : ownKnob Tryd.prog.godebug = none := by kernel_rfl
theorem laidOut : laidOutB Tryd.prog = true := by kernel_rfl

/-- A slice of integers that came in. -/
def IsRow (k : IntKind) (w : World) (a : Option Addr) (len cap : Nat) (zs : List Int) : Prop :=
  (a = none ∧ len = 0 ∧ cap = 0 ∧ zs = []) ∨
  ∃ x, a = some x ∧ len ≤ cap ∧ cap ≤ maxLen ∧ zs.length = cap ∧ (∀ i, i < zs.length → w.cell? (x.add i) = some (.int k (zs.getD i 0))) ∧ ∀ n ∈ zs, (Lit.int k n).wf = true

theorem long_all : ∀ n : Fin 5, ∀ fl : Bool, validF (List.replicate (126 + n.val) 107) fl = true ∧ resF (List.replicate (126 + n.val) 107) = [33, 33, 115, 116, 114] := by decide +kernel
theorem long_choose (u : ByteArray) (n : Nat) (h1 : 126 ≤ n) (h2 : n < 131) (hu : u.toList = List.replicate n 107) (fl : Bool) : chooseF u fl = u := by
  have h := long_all ⟨n - 126, by omega⟩ fl
  simp only [show 126 + (n - 126) = n by omega] at h
  unfold chooseF
  rw [if_pos]
  unfold readF
  rw [hu, byt_list, hu, h.2, List.map_replicate, str_list]
  rw [show ((107 : UInt8).toNat : Int) = 107 from rfl, h.1]
  rfl
set_option maxHeartbeats 4000000 in
set_option maxRecDepth 100000 in
theorem walk (a0 : ByteArray) (a1 : Int) (a2 : Bool) (w : World) (w0 : a0.size ≤ maxLen) (w1 : (Lit.int .i64 a1).wf = true) (hS : Shorts w) :
    Calls Tryd.prog 3 #[.string a0, .int .i64 a1, .bool a2] w fun e w' => e = .returned (.bool true) ∧ Below w.heap.size w w' := by
  have hb1' := bounds_i64 w1
  have HS := Lib.hid hS
  have HB0 := Lib.hid (Below.refl w.heap.size w)
  clear hS w1
  go_enter Tryd.func3, Tryd.ntmps3
  go_wp2_with fail
  refine (text_any a0 60 _ (by omega) w0).mono ?_
  rintro e w' ⟨t, _, ht, rfl, rfl⟩
  clear w0
  obtain ⟨c, hc⟩ : ∃ c, chooseF t a2 = c := ⟨_, rfl⟩
  have hcs : c.size ≤ 1000 := by have := choose_size t a2; rw [hc] at this; omega
  obtain ⟨o, ho⟩ : ∃ o, keyOf c = o := ⟨_, rfl⟩
  have HC := Lib.hid hc
  have HO := Lib.hid ho
  clear hc ho
  go_wp2_with fail
  refine (key_at HB0.out HS.out t a2 (by omega) c HC.out o HO.out).mono ?_
  rintro e W1 ⟨rfl, hb⟩
  have HB1 := Lib.hid hb
  clear hb
  obtain ⟨kt, hkt⟩ : ∃ kt, o.getD ⟨#[]⟩ = kt := ⟨_, rfl⟩
  obtain ⟨kb, hkb⟩ : ∃ kb, o.isSome = kb := ⟨_, rfl⟩
  rw [hkt, hkb]
  have HKT := Lib.hid hkt
  have HKB := Lib.hid hkb
  clear hkt hkb
  go_wp2_with fail
  refine (choose_at HB1.out HS.out t a2 (by omega) c HC.out).mono ?_
  rintro e W2 ⟨rfl, hb⟩
  have HB2 := Lib.hid hb
  clear hb
  go_upto_region 4 with fail
  go_cut [41] (fun v V => v = .bool false ∧ V = W2)
  case first =>
    by_cases h0 : c.size = 0
    · obtain ⟨e1, e2⟩ := str_nil c h0
      obtain rfl : kb = false := by rw [← HKB.out, ← HO.out, keyOf, if_pos h0]; rfl
      go_wp2_with fail
      go_meet
      exact ⟨rfl, rfl⟩
    · obtain ⟨e1, e2⟩ := str_none c (by omega)
      by_cases h1 : 128 < c.size
      · obtain rfl : kb = false := by rw [← HKB.out, ← HO.out, keyOf, if_neg h0, if_pos h1]; rfl
        have h1' : decide ((c.size : Int) ≤ 128) = false := decide_eq_false (by omega)
        go_wp2_with fail
        go_meet
        exact ⟨rfl, rfl⟩
      · obtain rfl : kb = true := by rw [← HKB.out, ← HO.out, keyOf, if_neg h0, if_neg h1]; rfl
        obtain rfl : kt = c := by rw [← HKT.out, ← HO.out, keyOf, if_neg h0, if_neg h1]; rfl
        go_wp2_with fail
        go_meet
        exact ⟨rfl, rfl⟩
  case rest =>
    obtain ⟨rfl, rfl⟩ := hcut
    clear HKT HKB HC HO
    go_wp2_with fail
    refine (within_nat a1 5 wc (by omega) (by omega) (by omega)).mono ?_
    rintro e w' ⟨k, hk, rfl, rfl⟩
    go_wp2_with fail
    go_loopw [10, 11] (fun u v V => ∃ (q : Nat) (x : ByteArray), q ≤ 126 + k ∧ u = .string x ∧ v = .int .i64 (q : Int) ∧ V = wc ∧ x.size = q ∧ Hid (x.toList = List.replicate q 107)) (fun _ v _ => 126 + k - (intOf v).toNat)
    case atStart => exact ⟨0, ⟨#[]⟩, by omega, rfl, rfl, rfl, rfl, mk_list []⟩
    case round =>
      obtain ⟨q, x, hq, rfl, rfl, rfl, hxs, HX⟩ := hrel
      by_cases hlt : q < 126 + k
      · have d1 : (q : Int) < 126 + (k : Int) := by omega
        have HX2 : Hid ((x ++ ⟨#[107]⟩).toList = List.replicate (q + 1) 107) := by
          show _ = _
          rw [list_append, HX.out, List.replicate_succ']
          congr 1
          exact mk_list [107]
        have HXS := Lib.hid hxs
        have hxs2 : x.size ≤ 130 := by omega
        clear hxs
        go_wp2_with fail
        go_roundw
        case rel => exact ⟨q + 1, x ++ ⟨#[107]⟩, by omega, by trivial, by go_num, by trivial, by rw [ByteArray.size_append, HXS.out]; rfl, HX2⟩
        case measure => simp [intOf]; omega
      · have d1 : decide ((q : Int) < 126 + (k : Int)) = false := decide_eq_false (by omega)
        obtain rfl : q = 126 + k := by omega
        have HCX := Lib.hid (long_choose x (126 + k) (by omega) (by omega) HX.out a2)
        obtain ⟨o2, ho2⟩ : ∃ o, keyOf x = o := ⟨_, rfl⟩
        have HO2 := Lib.hid ho2
        have HOS : Hid (o2.isSome = decide ((126 : Int) + (k : Int) ≤ 128)) := by
          show _ = _
          rw [← ho2, keyOf, if_neg (by omega)]
          by_cases h : 128 < x.size
          · rw [if_pos h, decide_eq_false (by omega)]; rfl
          · rw [if_neg h, decide_eq_true (by omega)]; rfl
        have hxs2 : x.size ≤ 130 := by omega
        clear ho2 hxs
        go_wp2_with fail
        refine (key_at HB2.out HS.out x a2 (by omega) x HCX.out o2 HO2.out).mono ?_
        rintro e W3 ⟨rfl, hb⟩
        have HB3 := Lib.hid hb
        clear hb
        rw [HOS.out]
        generalize o2.getD ⟨#[]⟩ = kk
        go_wp2_with fail
        refine (wakes_at HB3.out HS.out).mono ?_
        rintro e W4 ⟨rfl, hb⟩
        have HB4 := Lib.hid hb
        clear hb
        go_wp2_with fail
        go_ret
        exact ⟨rfl, HB4.out⟩


set_option maxRecDepth 100000 in
theorem lifted (os : Os) (started : os.Started) (H : Type) (enc : TypeId × Value → H) :
    ReturnsInHanded {} Tryd.checked os 3 .any (fun w args => (Rows.styleKeysSpec.pre enc Tryd.prog Tryd.f3 Rows.styleKeysRow.domain false w args ∧ laidMetH Tryd.prog Rows.styleKeysRow.laid w) ∧ sizedMet enc Tryd.prog Tryd.f3 (OpenSpec.ofChange Rows.styleKeysSpec) false w args)
      (Rows.styleKeysSpec.post enc Tryd.prog Tryd.f3 false true false false) := by
  refine returns_listed (C := Tryd.checked) (X := fun w _ => laidMetH Tryd.prog Rows.styleKeysRow.laid w) (fun _ _ _ hh h => h.of_heap hh) own started (by kernel_rfl) Tryd.func3
    (ChangeSpec.witness_shaped (enc := enc) (C := Tryd.checked) (os := os) (X := fun w _ => laidMetH Tryd.prog Rows.styleKeysRow.laid w) false (World.laidAll Tryd.prog os Rows.styleKeysRow.laid) #[.string ByteArray.empty, .int .i64 0, .bool false] 8 (World.laidAll_os _ _ _)
      (World.shaped_of_ZipB (by kernel_rfl) (by kernel_rfl)) (by kernel_rfl) (by kernel_rfl) (by kernel_rfl)
      (by rw [MakeChecks.laidMetH_plain _ _ _ (by kernel_rfl)]; exact laidMet_laidAll _ (by kernel_rfl) (by kernel_rfl))) ?_
  intro W base args ds gs before hval0 hW hX hsh
  have hval : ∀ (j : Nat) t v, Tryd.f3.params[j]? = some t → args[j]? = some v → Value.okWide Tryd.prog W .any base t v := hval0
  have hW' := hW
  obtain ⟨p, q, hA0, hV, rfl, hfz, hnd⟩ := hW
  have hA : DataW.TrodAll enc Tryd.prog W 0 (fun _ => true) true Tryd.f3.params.toList args.toList ds p := hA0
  rw [Tryd.params3] at hA hval
  obtain ⟨v0, vs0, d0, ds0, p0, q0, hargs, rfl, rfl, h0, r0⟩ := trodAll_cons hA
  obtain ⟨v1, vs1, d1, ds1, p1, q1, rfl, rfl, rfl, h1, r1⟩ := trodAll_cons r0
  obtain ⟨v2, vs2, d2, ds2, p2, q2, rfl, rfl, rfl, h2, r2⟩ := trodAll_cons r1
  obtain ⟨rfl, rfl, rfl⟩ := trodAll_nil r2
  obtain rfl : args = #[v0, v1, v2] := by cases args; simp_all
  obtain ⟨rfl, rfl⟩ := trodVars_none hV
  obtain ⟨a0, rfl, rfl, rfl, w0⟩ := open_string Tryd.underlying9 (hval 0 9 v0 rfl rfl) h0
  obtain ⟨a1, rfl, rfl, rfl, w1⟩ := open_int Tryd.underlying3 (hval 1 3 v1 rfl rfl) h1
  obtain ⟨a2, rfl, rfl, rfl⟩ := open_bool Tryd.underlying4 (hval 2 4 v2 rfl rfl) h2
  clear hA0 hval0
  refine (walk a0 a1 a2 W w0 w1 (shorts_in hX (by kernel_rfl) (List.mem_of_getElem? (i := 1) rfl))).mono fun e W' ⟨he, bel⟩ => ?_
  subst he
  exact ⟨_, rfl, _, _, _, [], _, [], hW', trodAll_mk1 (shut_bool Tryd.underlying4 _), (trodAll_cons_mk (shut_string Tryd.underlying9 w0) (trodAll_cons_mk (shut_int Tryd.underlying3 w1) (trodAll_cons_mk (shut_bool Tryd.underlying4 _) trodAll_mk0))), rfl, bel.frame _, fun h => by cases h⟩

theorem over : Rows.styleKeysRow.holds Tryd.pinned (OpenSpec.ofChange Rows.styleKeysSpec) :=
  OpenClaim.holds_of_wide 3 Tryd.f3 rfl rfl rfl rfl rfl rfl rfl ⟨rfl, rfl, rfl, rfl, rfl⟩ rfl rfl rfl rfl rfl (by kernel_rfl) Tryd.func3 (by kernel_rfl)
    (of_decide_eq_true (by kernel_rfl)) (by unfold Func.isWrapper; first | (rw [if_pos (by decide +kernel)]; kernel_rfl) | (rw [if_neg (by decide +kernel)]; exact ⟨rfl, rfl⟩))
    (fun os started H enc _ => lifted os started H enc)

theorem proved : Rows.StyleKeysCardSaid :=
  Claim7.holds_tied_plain_at .later [] [.data, .data, .pinned] true (true, "8985d1c63413ed726e3e50b5feea4ab5e2db93c40bc21c1980bccf415171d9a9") false over (fun _ h => by cases h) (by kernel_rfl) (fun _ h => by cases h) styleKeys_row_tie rfl ⟨rfl, rfl⟩ (by kernel_rfl) rfl
    (fun f fn hf hfn => by
      obtain rfl : f = 3 := Option.some.inj ((show Tryd.prog.funcNamed Rows.styleKeysRow.func = some 3 by kernel_rfl).symm.trans hf) |>.symm
      obtain rfl : fn = Tryd.f3 := (Option.some.inj (Tryd.func3.symm.trans hfn)).symm
      exact ⟨by kernel_rfl, fun j t ht => by
        rw [Tryd.params3] at ht
        have hm : t ∈ [9, 3, 4] := by simpa using Array.mem_of_getElem? ht
        have hall : ([9, 3, 4].all fun u => !Tryd.prog.wantsStandIn u) = true := by kernel_rfl
        exact (show Tryd.prog.wantsStandIn t = false by simpa using List.all_eq_true.1 hall t hm)⟩)
    (by kernel_rfl)
#print axioms proved
end Go.Proofs.YtdjpdcjljpmfnaaDoor.styleKeys
