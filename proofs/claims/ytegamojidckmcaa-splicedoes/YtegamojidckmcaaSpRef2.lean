/- The document's own answers of chapter 3: bytes with splices done; splices in order. -/
import Derived.Test.YtegamojidckmcaaSpRef
namespace Go.Proofs.Ytegamojidckmcaa
open Go.RowKit
set_option linter.unusedVariables false

/-- Bytes and a text put behind bytes of our own. -/
theorem do_step2 (w W : World) (v : Value) (out : List Int) (hown : W.ownsRow w.heap.size 5 1 v out.length (out.map (Value.int .u8))) (hb : Below w.heap.size w W)
    (A : Option Addr) (m c : Nat) (ys : List Int) (hm : ys.length = m) (hr : RdB W A ys) (s : ByteArray) (hsz : out.length + m + s.size ≤ 1000000000) :
    ∃ v2 W2 A3 cap3 W3, (Builtin.append_ #[23, 23] 23 #[v, .slice A m c]).run Try.prog W = .ok v2 W2 ∧
      (Builtin.append_ #[23, 9] 23 #[v2, .string s]).run Try.prog W2 = .ok (.slice A3 (out.length + m + s.size) cap3) W3 ∧
      out.length + m + s.size ≤ cap3 ∧ cap3 ≤ 9223372036854775807 ∧
      W3.ownsRow w.heap.size 5 1 (.slice A3 (out.length + m + s.size) cap3) (out.length + m + s.size) ((out ++ ys ++ byt s).map (Value.int .u8)) ∧ Below w.heap.size w W2 ∧ Below w.heap.size w W3 := by
  have hsz0 := hb.size
  obtain ⟨v2, W2, hrun2, ho2, hg2, hv2⟩ := run_append_bytes W w.heap.size v out.length out hown hsz0 A m c ys hm hr (by omega)
  have hb2 := hb.grown hg2 hsz0 (own_base hown)
  have hs2 := hg2.size
  obtain ⟨v3, W3, hrun3, ho3, hg3⟩ := run_append_text W2 w.heap.size v2 (out.length + m) (out ++ ys) ho2 (by omega) s (by omega)
  obtain ⟨A3, cap3, rfl, h1, h2, h3⟩ := own_form ho3
  exact ⟨v2, W2, A3, cap3, W3, hrun2, hrun3, h1, h2, ho3, hb2, hb2.grown hg3 (by omega) (own_base ho2)⟩

set_option maxHeartbeats 2000000 in
theorem refSplice_bad (A : Option Addr) (n c : Nat) (zs : List Int) (B : Option Addr) (m d : Nat) (l : List Sp) (w : World) (hl : zs.length = n) (hn : n ≤ 1000000000) (hm : l.length = m) (hmd : m ≤ d) (hd : d ≤ 9223372036854775807) (h64 : All64 l) (hr : RdS w B l)
    (hv : validF n 0 l = false) :
    Calls Try.prog 18 #[.slice A n c, .slice B m d] w fun e w' => e = .returned (.tuple #[.slice none 0 0, .int .i64 11]) ∧ Below w.heap.size w w' := by
  have HR := Lib.hid hr
  have H64 := Lib.hid h64
  have HV := Lib.hid hv
  have HM := Lib.hid hm
  clear hr h64 hv hm hl
  go_enter Try.func18, Try.ntmps18
  go_wp2_with fail
  refine (refValid_any B m d l n w HM.out hmd hd H64.out HR.out (by omega)).mono ?_
  rw [HV.out]
  rintro e w1 ⟨rfl, hb⟩
  have HB := Lib.hid hb
  clear hb
  go_wp2
  go_ret2
  exact ⟨rfl, HB.out⟩

set_option maxHeartbeats 4000000 in
theorem refSplice_good (A : Option Addr) (n c : Nat) (zs : List Int) (B : Option Addr) (m d : Nat) (l : List Sp) (w : World) (hl : zs.length = n) (hnc : n ≤ c) (hc : c ≤ 9223372036854775807) (hA : A = none → c = 0) (hrb : RdB w A zs)
    (hn : n ≤ 1000000000) (hm : l.length = m) (hmd : m ≤ d) (hd : d ≤ 9223372036854775807) (h64 : All64 l) (hr : RdS w B l) (hm6 : m ≤ 1000000) (hv : validF n 0 l = true) (hsz : (n : Int) + sumG l ≤ 65536) :
    Calls Try.prog 18 #[.slice A n c, .slice B m d] w (DoGood w zs l) := by
  subst hm
  have hlen := do_len zs l 0 (by omega) (by rw [hl]; exact hv)
  have HR := Lib.hid hr
  have HRB := Lib.hid hrb
  have H64 := Lib.hid h64
  have HV := Lib.hid hv
  have HL := Lib.hid hl
  have HA := Lib.hid hA
  rw [hl] at hlen
  have hbd : (doF zs 0 l).length ≤ 65536 := by omega
  obtain ⟨N, hN⟩ : ∃ N, (doF zs 0 l).length = N := ⟨_, rfl⟩
  rw [hN] at hbd
  have HN := Lib.hid hN
  clear hr h64 hv hl hrb hA hlen hsz hN
  go_enter Try.func18, Try.ntmps18
  go_wp2_with fail
  refine (refValid_any B l.length d l n w rfl hmd hd H64.out HR.out (by omega)).mono ?_
  rw [HV.out]
  rintro e w1 ⟨rfl, hb⟩
  have HB := Lib.hid hb
  clear hb
  go_wp2_with fail
  go_loopw [6, 7, 16] (fun v a i W => ∃ (k q : Nat) (A' : Option Addr) (p cap : Nat) (out : List Int), k ≤ l.length ∧ i = .int .i64 (k : Int) ∧ q ≤ n ∧ a = .int .i64 (q : Int) ∧ v = .slice A' p cap ∧ p ≤ cap ∧ cap ≤ 9223372036854775807 ∧
    Hid (out.length = p ∧ validF n q (l.drop k) = true ∧ out ++ doF zs q (l.drop k) = doF zs 0 l ∧ W.ownsRow w.heap.size 5 1 (.slice A' p cap) p (out.map (Value.int .u8)) ∧ Below w.heap.size w W)) (fun _ _ i _ => l.length - (intOf i).toNat)
  case atStart => exact ⟨0, 0, none, 0, 0, [], by omega, rfl, by omega, rfl, rfl, by omega, by omega, rfl, HV.out, rfl, own_nil _ _ _ _, HB.out⟩
  case round =>
    obtain ⟨k, q, A', p, cap, out, hk, rfl, hq, rfl, rfl, hpc, hcap, HK⟩ := hrel
    obtain ⟨hol, hval, hdo, hown, hbel⟩ := HK.out
    obtain ⟨wo, hwo⟩ : ∃ x, x = wr := ⟨_, rfl⟩
    subst hwo
    clear HK
    subst hol
    by_cases hlt : k < l.length
    · obtain ⟨b, off, rfl, hbl, _⟩ := (HR.out.below hbel).addr (by omega)
      have hcw : ∀ V, Below w.heap.size w V → V.cell? ⟨b, off + k * 3, none⟩ = some (.int .i64 (spAt l k).f) ∧ V.cell? ⟨b, off + k * 3 + 1, none⟩ = some (.int .i64 (spAt l k).t) ∧ V.cell? ⟨b, off + k * 3 + 2, none⟩ = some (.string (spAt l k).s) := by
        intro V hV
        obtain ⟨b', off', e, _, hc⟩ := (HR.out.below hV).addr (by omega)
        injection e with e; injection e with e1 e2; subst e1 e2
        exact hc k hlt
      rw [drop_cons hlt] at hval hdo
      generalize spAt l k = x at *
      rw [valid_cons] at hval
      obtain ⟨hv1, hv2, hv3, hv4⟩ := hval
      rw [doF_cons] at hdo
      obtain ⟨f, hf⟩ : ∃ f : Nat, x.f = (f : Int) := ⟨x.f.toNat, by omega⟩
      obtain ⟨t, ht⟩ : ∃ t : Nat, x.t = (t : Int) := ⟨x.t.toNat, by omega⟩
      obtain ⟨s, hs⟩ : ∃ s, x.s = s := ⟨_, rfl⟩
      rw [hf] at hcw hv1 hv2 hdo
      rw [ht] at hcw hv2 hv3 hv4 hdo
      rw [hs] at hcw hdo
      simp only [Int.toNat_natCast] at hdo
      clear hf ht hs
      have hsum := congrArg List.length hdo
      simp only [List.length_append, List.length_take, List.length_drop, byt_len] at hsum
      obtain ⟨A2, hsl, hA2, hrd2⟩ := slice_lh A n c q f zs HL.out hnc HA.out (by omega) (by omega)
      have hy : ((zs.drop q).take (f - q)).length = f - q := by rw [List.length_take, List.length_drop, HL.out]; omega
      have hzl := HL.out
      have hN := HN.out
      have hownd := own_below hown (Below.refl wo.heap.size wo).drew
      have hbeld := below_step hbel (Below.refl wo.heap.size wo).drew
      obtain ⟨v2, W2, A3, cap3, W3, hrun2, hrun3, hc1, hc2, hown3, hbel2, hbel3⟩ := do_step2 w wo.drew _ out hownd hbeld A2 (f - q) (c - q) _ hy (hrd2 _ (HRB.out.below hbeld)) s (by omega)
      have HS := Lib.hid (And.intro (hcw _ hbel) (And.intro (hcw _ hbeld) (And.intro (hcw _ hbel2) (hcw _ hbel3))))
      obtain ⟨k1, k2, k3⟩ := hcw _ hbel3
      have HX3 := Lib.hid (And.intro hown3 (And.intro hbel3 (And.intro hdo (And.intro hv4 hy))))
      have HRUN2 := Lib.hid hrun2
      have HRUN3 := Lib.hid hrun3
      clear hown3 hbel3 hdo hv4 hy hrun2 hrun3 hrd2 hA2 hown hbel hsum hzl hN hcw hbel2 hownd hbeld
      have dk : (k : Int) < (l.length : Int) := by omega
      have dq : (q : Int) ≤ (f : Int) := by omega
      have df : (f : Int) ≤ (c : Int) := by omega
      go_wp2_with fail
      go_region_held3 (fun w' => w'.cell? ⟨b, off + k * 3, none⟩ = some (.int .i64 (f : Int)) ∧ w'.cell? ⟨b, off + k * 3 + 1, none⟩ = some (.int .i64 (t : Int)) ∧ w'.cell? ⟨b, off + k * 3 + 2, none⟩ = some (.string s))
        (first | exact HS.out.1 | exact HS.out.2.1 | exact HS.out.2.2.1 | exact HS.out.2.2.2)
        (first | (refine step_append_known (by rfl) _ _ 23 23 (by rfl) _ _ _ _ (by rfl) (by rfl) HRUN2.out ?_) | (refine step_append_known (by rfl) _ _ 23 9 (by rfl) _ _ _ _ (by rfl) (by rfl) HRUN3.out ?_))
      go_wp2
      go_roundw
      case rel =>
        refine ⟨k + 1, t, A3, _, cap3, _, by omega, by go_num, by omega, rfl, rfl, hc1, hc2, ?_, HX3.out.2.2.2.1, ?_, HX3.out.1, HX3.out.2.1⟩
        · rw [List.length_append, List.length_append, HX3.out.2.2.2.2, byt_len]
        · rw [← HX3.out.2.2.1]; simp
      case measure => simp [intOf]; omega
    · obtain rfl : k = l.length := by omega
      rw [List.drop_length] at hval hdo
      rw [doF_nil] at hdo
      obtain ⟨A2, hsl, hA2, hrd2⟩ := slice_l A n c q zs HL.out hnc HA.out hq
      have hsum := congrArg List.length hdo
      simp only [List.length_append, List.length_drop] at hsum
      have hzl := HL.out
      have hN := HN.out
      obtain ⟨v2, W2, hrun2, ho2, hg2, hv2⟩ := run_append_bytes wo w.heap.size _ out.length out hown hbel.size A2 (n - q) (c - q) (zs.drop q) (by rw [List.length_drop]; omega) (hrd2 _ (HRB.out.below hbel)) (by omega)
      obtain ⟨A3, cap3, rfl, h1, h2, h3⟩ := own_form ho2
      rw [hdo] at ho2
      have hbel2 := hbel.grown hg2 hbel.size (own_base hown)
      have hN2 : out.length + (n - q) = N := by omega
      rw [hN2] at ho2 hrun2 h1
      have HX2 := Lib.hid (And.intro ho2 (And.intro hbel2 h3))
      have HRUN2 := Lib.hid hrun2
      clear hown hbel hdo hval hsum hzl hN hrun2 ho2 hg2 hv2 hbel2 hN2 h3
      have dN : decide ((65536 : Int) < (N : Int)) = false := decide_eq_false (by omega)
      go_wp2_with (at_builtin; refine wpList_append_known rfl _ (.tmp 44) 23 rfl _ _ _ _ rfl rfl HRUN2.out ?_)
      go_ret2
      exact ⟨A3, N, cap3, rfl, HN.out, h1, h2, HX2.out.2.2, (RdC.own HX2.out.1).toB, HX2.out.2.1⟩
end Go.Proofs.Ytegamojidckmcaa
