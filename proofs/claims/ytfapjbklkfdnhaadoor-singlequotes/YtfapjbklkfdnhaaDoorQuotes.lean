/-
  Proved: the card of the law 'scholium/scholiumlaw05.SingleQuotes' (for every input it returns true, and every argument reads as it did before; the listed tables of Go's library are tied to the program's text). No conditions.
-/
import Derived.Test.YtfapjbklkfdnhaaDoorRows
import Derived.Test.YtfapjbklkfdnhaaDoorCards
import Derived.Test.YtfapjbklkfdnhaaDoorTie
import Derived.Test.YtfapjbklkfdnhaaDoorDoor
import Derived.Test.YtfapjbklkfdnhaaDoorSgLaw
import Derived.Test.YtfapjbklkfdnhaaDoorKeep
import Derived.Test.YtfapjbklkfdnhaaDoorRangeS
import Derived.WalkKit
import Derived.ProofKit
import Derived.OpenShut
import Derived.ShutString
import Derived.ChangeOld
import Derived.Below
import Derived.LaidMore
import Derived.Lay
import Derived.SevenTiedAt
namespace Go.Proofs.YtfapjbklkfdnhaaDoor.singleQuotes
open Go.ChangeShapes Go.WideShapes Go.ChangeAt Go.RowKit
open Go.ChangeMaps (open_string shut_string)
set_option linter.unusedVariables false

theorem own : ownKnob Tryd.prog.godebug = none := by kernel_rfl
theorem laidOut : laidOutB Tryd.prog = true := by kernel_rfl

/-- A slice of integers that came in. -/
def IsRow (k : IntKind) (w : World) (a : Option Addr) (len cap : Nat) (zs : List Int) : Prop :=
  (a = none ∧ len = 0 ∧ cap = 0 ∧ zs = []) ∨
  ∃ x, a = some x ∧ len ≤ cap ∧ cap ≤ maxLen ∧ zs.length = cap ∧ (∀ i, i < zs.length → w.cell? (x.add i) = some (.int k (zs.getD i 0))) ∧ ∀ n ∈ zs, (Lit.int k n).wf = true

def bads : Array Value := #[.string ⟨#[10]⟩, .string ⟨#[13]⟩, .string ⟨#[0]⟩, .string ⟨#[255]⟩, .string ⟨#[127]⟩, .string ⟨#[239, 187, 191]⟩]
theorem bads_at (k : Nat) (hk : k < 6) : ∃ d : ByteArray, bads[k]? = some (.string d) ∧ d.size ≤ 3 ∧ ∃ x t, byt d = x :: t ∧ cont x = false ∧ badL true (x :: t) = true := by
  match k, hk with
  | 0, _ => exact ⟨_, rfl, by decide, 10, [], rfl, by decide, by decide +kernel⟩
  | 1, _ => exact ⟨_, rfl, by decide, 13, [], rfl, by decide, by decide +kernel⟩
  | 2, _ => exact ⟨_, rfl, by decide, 0, [], rfl, by decide, by decide +kernel⟩
  | 3, _ => exact ⟨_, rfl, by decide, 255, [], rfl, by decide, by decide +kernel⟩
  | 4, _ => exact ⟨_, rfl, by decide, 127, [], rfl, by decide, by decide +kernel⟩
  | 5, _ => exact ⟨_, rfl, by decide, 239, [187, 191], rfl, by decide, by decide +kernel⟩

set_option maxHeartbeats 2000000 in
set_option maxRecDepth 100000 in
theorem walk (a0 : ByteArray) (a1 : Int) (w : World) (w0 : a0.size ≤ maxLen) (w1 : (Lit.int .i64 a1).wf = true) (hM : MaxL w) :
    Calls Tryd.prog 4 #[.string a0, .int .i64 a1] w fun e w' => e = .returned (.bool true) ∧ Below w.heap.size w w' := by
  have hb1 := bounds_i64 w1
  have HM := Lib.hid hM
  have HB0 : Hid (Below w.heap.size w w) := Below.refl _ _
  clear hM w1
  go_enter Tryd.func4, Tryd.ntmps4
  go_wp2_with fail
  refine (text_any a0 40 _ (by omega) w0).mono ?_
  rintro e w' ⟨s, _, hs, rfl, rfl⟩
  clear w0
  obtain ⟨ok, hok⟩ : ∃ ok, inF true s.size (byt s) = ok := ⟨_, rfl⟩
  have HK := Lib.hid hok
  clear hok
  go_wp2_with fail
  refine (put_txt HB0.out HM.out (by omega) ok HK.out).mono ?_
  rintro e W1 ⟨p, hp, rfl, hbp⟩
  have HB1 := Lib.hid hbp
  have HP := Lib.hid hp
  clear hbp hp
  go_wp2_with fail
  go_loopw [7] (fun n W => ∃ pos c : Nat, pos ≤ s.size ∧ W = W1.iter s pos ∧ n = .int .i64 (c : Int) ∧ c ≤ pos ∧ Hid (((byt s).take pos).count 39 = c)) (fun _ W => s.size - W.iterPos W1.heap.size)
  case atStart => exact ⟨0, 0, by omega, rfl, rfl, by omega, by simp [Hid]⟩
  case round =>
    obtain ⟨pos, c, hpos, rfl, rfl, hcp, HC⟩ := hrel
    by_cases hlt : pos < s.size
    · have hnx : ∀ ty, (Instr.next (.pointer (some ⟨W1.heap.size, 0, none⟩)) true ty).run Tryd.prog (W1.iter s pos) = _ := fun ty => run_next_any W1 s pos ty hlt
      obtain ⟨g1, g2, _⟩ := decode_cont s pos hlt
      have hcn := count_next 39 (by omega) s pos hlt
      have HCN := Lib.hid hcn
      have d : (pos : Int) < (s.size : Int) := by omega
      clear hcn
      by_cases hz : (s[pos].toNat : Int) = 39
      · have e39 : ((s[pos].toNat : Int) == 39) = true := beq_iff_eq.2 hz
        have HN : Hid (((byt s).take (pos + (Utf8.decode s pos).2)).count 39 = c + 1) := by show _ = _; rw [HCN.out, if_pos hz, HC.out]
        clear hz HCN
        go_wp2_with fail
        go_roundw
        case rel => exact ⟨pos + (Utf8.decode s pos).2, c + 1, g2, rfl, by go_num, by omega, HN⟩
        case measure => simp; omega
      · have e39 : ((s[pos].toNat : Int) == 39) = false := beq_eq_false_iff_ne.2 hz
        have HN : Hid (((byt s).take (pos + (Utf8.decode s pos).2)).count 39 = c) := by show _ = _; rw [HCN.out, if_neg hz, HC.out]; rfl
        clear hz HCN
        go_wp2_with fail
        go_roundw
        case rel => exact ⟨pos + (Utf8.decode s pos).2, c, g2, rfl, rfl, by omega, HN⟩
        case measure => simp; omega
    · obtain rfl : pos = s.size := by omega
      have hnx : ∀ ty, (Instr.next (.pointer (some ⟨W1.heap.size, 0, none⟩)) true ty).run Tryd.prog (W1.iter s s.size) = _ := fun ty => run_next_end W1 s s.size ty hlt
      have HBI : Hid (Below w.heap.size w (W1.iter s s.size)) := HB1.out.alloc HB1.out.size _
      have hcc : (byt s).count 39 = c := by
        have := HC.out
        rwa [List.take_of_length_le (by rw [byt_len]; omega)] at this
      have HCC := Lib.hid hcc
      clear hcc HC
      cases ok
      · clear HP HCC
        go_wp2_with fail
        refine (within_nat a1 6 _ (by omega) (by omega) (by omega)).mono ?_
        rintro e w' ⟨k, hk, rfl, rfl⟩
        obtain ⟨d, hd, hds, hbad⟩ := bads_at k hk
        have hcell : ((W1.iter s s.size).alloc (.cells bads 9)).cell? ⟨(W1.iter s s.size).heap.size, k, none⟩ = some (.string d) := by rw [World.cell?_alloc_mark]; exact hd
        have HXX := Lib.hid (HBI.out.alloc HBI.out.size (.cells bads 9))
        simp only [bads] at hcell HXX
        have dk : (k : Int) < 6 := by omega
        obtain ⟨u, hu⟩ : ∃ x, s ++ d = x := ⟨_, rfl⟩
        have hus : u.size ≤ 50 := by rw [← hu, ByteArray.size_append]; omega
        have HNO : Hid (inF true u.size (byt u) = false) := by
          show _ = _
          have h1 : byt u = byt s ++ byt d := by rw [← hu, byt_append]
          obtain ⟨x, y, h2, h3, h4⟩ := hbad
          rw [h1, h2]
          refine inF_spoilt x y h3 h4 _ _ (byt_byte s) ?_
          have h5 := byt_len u
          rw [h1, h2, List.length_append, List.length_cons] at h5
          omega
        clear hd hbad
        go_wp2_with fail
        refine (put_txt HXX.out HM.out (by omega) false HNO.out).mono ?_
        rintro e W2 ⟨p2, hp2, rfl, hb2⟩
        have HB2 := Lib.hid hb2
        clear hb2 hp2 hcell hu
        go_wp2_with fail
        refine (wakes_at HB2.out HM.out).mono ?_
        rintro e W3 ⟨rfl, hb3⟩
        have HB3 := Lib.hid hb3
        clear hb3
        go_wp2_with fail
        go_ret
        exact ⟨rfl, HB3.out⟩
      · have hp : byt p = putF (byt s) := HP.out
        have hpl := put_len hp
        rw [byt_len, HCC.out] at hpl
        have hps : p.size ≤ 90 := by omega
        have e1 : ((p.size : Int) != (s.size : Int) + 2 + (c : Int)) = false := by rw [bne_eq_false_iff_eq]; omega
        have hi0 : ∀ W, (Instr.index 9 (.string p) (.int .i64 0)).run Tryd.prog W = .ok (.int .u8 39) W := by
          intro W
          rw [run_index_string W 9 p .i64 0 Tryd.underlying9, dif_pos (by omega)]
          have := byt_at p 0 (by omega)
          rw [hp] at this
          simp [putF] at this
          simp [← this]
        have hi1 : ∀ W, (Instr.index 9 (.string p) (.int .i64 ((p.size : Int) - 1))).run Tryd.prog W = .ok (.int .u8 39) W := by
          intro W
          rw [run_index_string W 9 p .i64 _ Tryd.underlying9, dif_pos (by omega)]
          have h1 := byt_at p ((p.size : Int) - 1).toNat (by omega)
          have h2 : (byt p)[((p.size : Int) - 1).toNat]? = some 39 := by
            have h3 : ((p.size : Int) - 1).toNat = (39 :: dbl (byt s)).length := by
              have h4 := byt_len p
              rw [hp] at h4
              simp [putF] at h4
              simp
              omega
            rw [hp, h3]
            unfold putF
            rw [← List.cons_append, List.getElem?_append_right (Nat.le_refl _)]
            simp
          rw [h2] at h1
          simp at h1
          simp [← h1]
        clear hp hpl HP HCC
        go_wp2_with fail
        refine (within_nat a1 6 _ (by omega) (by omega) (by omega)).mono ?_
        rintro e w' ⟨k, hk, rfl, rfl⟩
        obtain ⟨d, hd, hds, hbad⟩ := bads_at k hk
        have hcell : ((W1.iter s s.size).alloc (.cells bads 9)).cell? ⟨(W1.iter s s.size).heap.size, k, none⟩ = some (.string d) := by rw [World.cell?_alloc_mark]; exact hd
        have HXX := Lib.hid (HBI.out.alloc HBI.out.size (.cells bads 9))
        simp only [bads] at hcell HXX
        have dk : (k : Int) < 6 := by omega
        obtain ⟨u, hu⟩ : ∃ x, s ++ d = x := ⟨_, rfl⟩
        have hus : u.size ≤ 50 := by rw [← hu, ByteArray.size_append]; omega
        have HNO : Hid (inF true u.size (byt u) = false) := by
          show _ = _
          have h1 : byt u = byt s ++ byt d := by rw [← hu, byt_append]
          obtain ⟨x, y, h2, h3, h4⟩ := hbad
          rw [h1, h2]
          refine inF_spoilt x y h3 h4 _ _ (byt_byte s) ?_
          have h5 := byt_len u
          rw [h1, h2, List.length_append, List.length_cons] at h5
          omega
        clear hd hbad
        go_wp2_with fail
        refine (put_txt HXX.out HM.out (by omega) false HNO.out).mono ?_
        rintro e W2 ⟨p2, hp2, rfl, hb2⟩
        have HB2 := Lib.hid hb2
        clear hb2 hp2 hcell hu
        go_wp2_with fail
        refine (wakes_at HB2.out HM.out).mono ?_
        rintro e W3 ⟨rfl, hb3⟩
        have HB3 := Lib.hid hb3
        clear hb3
        go_wp2_with fail
        go_ret
        exact ⟨rfl, HB3.out⟩


set_option maxRecDepth 100000 in
theorem lifted (os : Os) (started : os.Started) (H : Type) (enc : TypeId × Value → H) :
    ReturnsInHanded {} Tryd.checked os 4 .any (fun w args => (Rows.singleQuotesSpec.pre enc Tryd.prog Tryd.f4 Rows.singleQuotesRow.domain false w args ∧ laidMetH Tryd.prog Rows.singleQuotesRow.laid w) ∧ sizedMet enc Tryd.prog Tryd.f4 (OpenSpec.ofChange Rows.singleQuotesSpec) false w args)
      (Rows.singleQuotesSpec.post enc Tryd.prog Tryd.f4 false true false false) := by
  refine returns_listed (C := Tryd.checked) (X := fun w _ => laidMetH Tryd.prog Rows.singleQuotesRow.laid w) (fun _ _ _ hh h => h.of_heap hh) own started (by kernel_rfl) Tryd.func4
    (ChangeSpec.witness_shaped (enc := enc) (C := Tryd.checked) (os := os) (X := fun w _ => laidMetH Tryd.prog Rows.singleQuotesRow.laid w) false (World.laidAll Tryd.prog os Rows.singleQuotesRow.laid) #[.string ByteArray.empty, .int .i64 0] 8 (World.laidAll_os _ _ _)
      (World.shaped_of_ZipB (by kernel_rfl) (by kernel_rfl)) (by kernel_rfl) (by kernel_rfl) (by kernel_rfl)
      (by rw [MakeChecks.laidMetH_plain _ _ _ (by kernel_rfl)]; exact laidMet_laidAll _ (by kernel_rfl) (by kernel_rfl))) ?_
  intro W base args ds gs before hval0 hW _ hsh
  have hval : ∀ (j : Nat) t v, Tryd.f4.params[j]? = some t → args[j]? = some v → Value.okWide Tryd.prog W .any base t v := hval0
  have hW' := hW
  obtain ⟨p, q, hA0, hV, rfl, hfz, hnd⟩ := hW
  have hA : DataW.TrodAll enc Tryd.prog W 0 (fun _ => true) true Tryd.f4.params.toList args.toList ds p := hA0
  rw [Tryd.params4] at hA hval
  obtain ⟨v0, vs0, d0, ds0, p0, q0, hargs, rfl, rfl, h0, r0⟩ := trodAll_cons hA
  obtain ⟨v1, vs1, d1, ds1, p1, q1, rfl, rfl, rfl, h1, r1⟩ := trodAll_cons r0
  obtain ⟨rfl, rfl, rfl⟩ := trodAll_nil r1
  obtain rfl : args = #[v0, v1] := by cases args; simp_all
  obtain ⟨rfl, rfl⟩ := trodVars_none hV
  obtain ⟨a0, rfl, rfl, rfl, w0⟩ := open_string Tryd.underlying9 (hval 0 9 v0 rfl rfl) h0
  obtain ⟨a1, rfl, rfl, rfl, w1⟩ := open_int Tryd.underlying3 (hval 1 3 v1 rfl rfl) h1
  clear hA0 hval0
  refine (walk a0 a1 W w0 w1 (maxL_shaped hsh)).mono fun e W' ⟨he, bel⟩ => ?_
  subst he
  exact ⟨_, rfl, _, _, _, [], _, [], hW', trodAll_mk1 (shut_bool Tryd.underlying4 _), (trodAll_cons_mk (shut_string Tryd.underlying9 w0) (trodAll_cons_mk (shut_int Tryd.underlying3 w1) trodAll_mk0)), rfl, bel.frame _, fun h => by cases h⟩

theorem over : Rows.singleQuotesRow.holds Tryd.pinned (OpenSpec.ofChange Rows.singleQuotesSpec) :=
  OpenClaim.holds_of_wide 4 Tryd.f4 rfl rfl rfl rfl rfl rfl rfl ⟨rfl, rfl, rfl, rfl, rfl⟩ rfl rfl rfl rfl rfl (by kernel_rfl) Tryd.func4 (by kernel_rfl)
    (of_decide_eq_true (by kernel_rfl)) (by unfold Func.isWrapper; first | (rw [if_pos (by decide +kernel)]; kernel_rfl) | (rw [if_neg (by decide +kernel)]; exact ⟨rfl, rfl⟩))
    (fun os started H enc _ => lifted os started H enc)

theorem proved : Rows.SingleQuotesCardSaid :=
  Claim7.holds_tied_plain_at .later [] [.data, .pinned] true (true, "c5e4571ad1cca09650eba91c1bb4250b8a20ec4ae701ff2c2e70efc704cfcc79") false over (fun _ h => by cases h) (by kernel_rfl) (fun _ h => by cases h) singleQuotes_row_tie rfl ⟨rfl, rfl⟩ (by kernel_rfl) rfl
    (fun f fn hf hfn => by
      obtain rfl : f = 4 := Option.some.inj ((show Tryd.prog.funcNamed Rows.singleQuotesRow.func = some 4 by kernel_rfl).symm.trans hf) |>.symm
      obtain rfl : fn = Tryd.f4 := (Option.some.inj (Tryd.func4.symm.trans hfn)).symm
      exact ⟨by kernel_rfl, fun j t ht => by
        rw [Tryd.params4] at ht
        have hm : t ∈ [9, 3] := by simpa using Array.mem_of_getElem? ht
        have hall : ([9, 3].all fun u => !Tryd.prog.wantsStandIn u) = true := by kernel_rfl
        exact (show Tryd.prog.wantsStandIn t = false by simpa using List.all_eq_true.1 hall t hm)⟩)
    (by kernel_rfl)
#print axioms proved
end Go.Proofs.YtfapjbklkfdnhaaDoor.singleQuotes
