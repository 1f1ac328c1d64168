/- fold.Body: the rows of a block scalar. -/
import Derived.Test.YtodnfdkcmhiljaaFdExt
import Derived.Test.YtodnfdkcmhiljaaFdRows
namespace Go.Proofs.Ytodnfdkcmhiljaa
open Go.RowKit
set_option linter.unusedVariables false

theorem ret_three {A : Option Addr} {p c : Nat} {a a' : Int} {o o' : Bool} (h1 : a = a') (h2 : o = o') : Ending.returned (.tuple #[.slice A p c, .int .i64 a, .bool o]) = .returned (.tuple #[.slice A p c, .int .i64 a', .bool o']) := by rw [h1, h2]
/-- What Body hands back. -/
def BodyP (r : Option (List (List Int) × Nat)) (w : World) (e : Ending) (w' : World) : Prop :=
  ∃ (A : Option Addr) (q cap : Nat) (l : List ByteArray), OwnT w w' A q cap l ∧ (∀ s ∈ l, s.size ≤ 1000000) ∧
    match r with
    | none => e = .returned (.tuple #[.slice none 0 0, .int .i64 0, .bool false]) ∧ l = [] ∧ A = none ∧ q = 0 ∧ cap = 0
    | some (rows, next) => e = .returned (.tuple #[.slice A q cap, .int .i64 (next : Int), .bool true]) ∧ l.map byt = rows
/-- A slice of lines. -/
theorem slice_ln (B : Option Addr) (m d lo hi : Nat) (ls : List Ln) (hl : ls.length = m) (hmd : m ≤ d) (h1 : lo ≤ hi) (h2 : hi ≤ m) : ∃ B',
    (∀ W, (Instr.slice 34 (.slice B m d) (some (.int .i64 (lo : Int))) (some (.int .i64 (hi : Int))) none).run Try.prog W = .ok (.slice B' (hi - lo) (d - lo)) W) ∧
    ∀ W, RdL W B ls → RdL W B' ((ls.drop lo).take (hi - lo)) := by
  obtain ⟨i, hi', hz, hs1, _⟩ := info_parts line_info
  have hel : Try.prog.elem 34 = 63 := by kernel_rfl
  have hun : Try.prog.underlying 34 = some (.slice (Try.prog.elem 34)) := by rw [hel]; exact Try.underlying34
  have hrun : ∀ W, (Instr.slice 34 (.slice B m d) (some (.int .i64 (lo : Int))) (some (.int .i64 (hi : Int))) none).run Try.prog W = .ok (sliced B lo hi d 3) W := by
    intro W
    rw [run_slice_lh W 34 B m d hun .i64 .i64 _ _ (by omega) (by omega) (by omega), hel]
    simp [sizeOf, typeInfo, hi', hs1, sliced]
  have hcells : ∀ k l, lnsC (l.drop k) = (lnsC l).drop (k * 3) := by
    intro k
    induction k with
    | zero => intro l; simp
    | succ k ih =>
      intro l
      cases l with
      | nil => simp [lnsC]
      | cons x t => rw [List.drop_succ_cons, ih]; simp [lnsC, lnC, Nat.succ_mul]
  have hcellt : ∀ k l, lnsC (l.take k) = (lnsC l).take (k * 3) := by
    intro k
    induction k with
    | zero => intro l; simp [lnsC]
    | succ k ih =>
      intro l
      cases l with
      | nil => simp [lnsC]
      | cons x t =>
        rw [List.take_succ_cons]
        have := ih t
        simp only [lnsC, List.flatMap_cons] at this ⊢
        have h3 : (lnC x).length = 3 := rfl
        rw [this, List.take_append, h3, List.take_of_length_le (l := lnC x) (by rw [h3]; omega), show (k + 1) * 3 - 3 = k * 3 by omega]
  cases B with
  | none =>
    refine ⟨none, fun W => by rw [hrun W]; simp [sliced], fun W h => ?_⟩
    have h0 := RdC.none_ h
    have : ls = [] := by
      have hlen := lnsC_len ls
      rw [h0] at hlen
      exact List.eq_nil_of_length_eq_zero (by simp at hlen; omega)
    subst this; simp; exact RdC.nil _ _
  | some a =>
    by_cases h : d = lo
    · refine ⟨some a, fun W => by rw [hrun W]; simp [sliced, h], fun W hr => ?_⟩
      have : hi - lo = 0 := by omega
      rw [this]; simp; exact RdC.nil _ _
    · refine ⟨some (a.add (lo * 3)), fun W => by rw [hrun W]; simp [sliced, h], fun W hr => ?_⟩
      by_cases h0 : ls = []
      · subst h0; simp; exact RdC.nil _ _
      · obtain ⟨b, off, e, _⟩ := RdL.addr hr (List.length_pos_iff.2 h0)
        injection e with e; subst e
        rw [add_plain]
        unfold RdL
        rw [hcellt, hcells]
        exact (RdC.drop hr (lo * 3)).take _

theorem rs_at (ls : List Ln) (first nx i : Nat) (h : i < nx - first) (hn : nx ≤ ls.length) : ((ls.drop first).take (nx - first))[i]? = some (lnAt ls (first + i)) ∧ lnAt ((ls.drop first).take (nx - first)) i = lnAt ls (first + i) := by
  have h1 : ((ls.drop first).take (nx - first))[i]? = some (lnAt ls (first + i)) := by
    rw [List.getElem?_take, if_pos h, List.getElem?_drop]
    exact lnAt_some (by omega)
  exact ⟨h1, by simp [lnAt, List.getD, h1]⟩

set_option maxHeartbeats 8000000 in
set_option maxRecDepth 100000 in
theorem body_any (b off : Nat) (n c : Nat) (zs : List Int) (B : Option Addr) (m d : Nat) (ls : List Ln) (first : Nat) (parent : Int) (h : Hd) (w : World) (hl : zs.length = n) (hnc : n ≤ c) (hm : c ≤ 9223372036854775807) (hn : n ≤ 100000) (hb : Byte zs) (hr : RdB w (some ⟨b, off, none⟩) zs)
    (hls : ls.length = m) (hmd : m ≤ d) (hm1 : m ≤ 100000) (hrl : RdL w B ls) (hv : Lies n ls) (hf : first ≤ m) (hp1 : -1 ≤ parent) (hp2 : parent ≤ 100000) (hdg : h.dg ≤ 100000) :
    Calls Try.prog 18 #[.slice (some ⟨b, off, none⟩) n c, .slice B m d, .int .i64 (first : Int), .int .i64 parent, hdV h] w (BodyP (bodyF zs ls first (extF zs ls first parent h.dg).1 (extF zs ls first parent h.dg).2) w) := by
  obtain ⟨fo, st, ke, dg⟩ := h
  simp only [] at hdg
  obtain ⟨W0, hW0⟩ : ∃ x, w.alloc (.cells #[.bool fo, .bool st, .bool ke, .int .i64 (dg : Int)] 27) = x := ⟨_, rfl⟩
  have HB0 : Hid (Below w.heap.size w W0) := by rw [← hW0]; exact (Below.refl _ _).alloc (Nat.le_refl _) _
  have hg : W0.heap[w.heap.size]? = some (.cells #[.bool fo, .bool st, .bool ke, .int .i64 (dg : Int)] 27) := by rw [← hW0]; exact heap_alloc_new _ _
  have c3 : W0.cell? ⟨w.heap.size, 3, none⟩ = some (.int .i64 (dg : Int)) := by simp [World.cell?, hg]
  have hext := extent_any b off n c zs B m d ls first parent dg W0 hl hnc hm hn hb (hr.below HB0.out) hls hmd hm1 (hrl.below HB0.out) hv hf hp1 hp2 hdg
  have hbd := ext_bd zs ls first parent dg (by omega)
  have htk := taken_col zs ls first parent dg
  simp only []
  obtain ⟨col, nx, hE⟩ : ∃ col nx, extF zs ls first parent dg = (col, nx) := ⟨_, _, rfl⟩
  rw [hE] at hext hbd htk ⊢
  simp only [] at hext hbd htk ⊢
  rw [hls] at hbd
  obtain ⟨hb1, hb2⟩ := hbd
  obtain ⟨B', hsl, hrd⟩ := slice_ln B m d first nx ls hls hmd hb1 hb2
  obtain ⟨K, hK⟩ : ∃ K, nx - first = K := ⟨_, rfl⟩
  have hat := fun i hi => rs_at ls first nx i hi (by omega)
  obtain ⟨rs, hrs⟩ : ∃ rs, (ls.drop first).take (nx - first) = rs := ⟨_, rfl⟩
  have hrsl : rs.length = K := by rw [← hrs, List.length_take, List.length_drop]; omega
  have hbf : bodyF zs ls first col nx = if rs.any (badF zs col) = true then none else some (rs.map (rowF zs col), nx) := by unfold bodyF; rw [hrs]
  rw [hrs] at hrd hat
  rw [hK] at hsl hat
  have HRS : Hid (∀ i, i < K → (lnAt rs i).f ≤ (lnAt rs i).t ∧ (lnAt rs i).t ≤ n ∧ (blkF zs (lnAt rs i) = false → col ≤ indF zs (lnAt rs i)) ∧ rs.take (i + 1) = rs.take i ++ [lnAt rs i]) := by
    intro i hi
    obtain ⟨h1, h2⟩ := hat i hi
    obtain ⟨h3, h4⟩ := hv (first + i) (by omega)
    rw [h2]
    refine ⟨h3, h4, fun hb => htk (first + i) (by omega) (by omega) hb, ?_⟩
    rw [List.take_add_one, h1]; rfl
  have HR := Lib.hid hr
  have HB := Lib.hid hb
  have HL := Lib.hid (And.intro hl (And.intro hrsl hbf))
  have HRD := Lib.hid (And.intro hrl hrd)
  have HEXT := Lib.hid hext
  have HSL := Lib.hid hsl
  have hKm : K ≤ m := by omega
  have hdd : K ≤ d - first := by omega
  have d0 : decide ((first : Int) < 0) = false := decide_eq_false (by omega)
  have d0' : ¬ (first : Int) < 0 := by omega
  have d1 : decide (m < first) = false := decide_eq_false (by omega)
  have d1' : ¬ m < first := by omega
  clear hr hb hl hls hrl hv hext hsl hrd hat hrs hrsl hbf htk hE hg hK
  unfold hdV
  go_enter Try.func18, Try.ntmps18
  go_wp2_with fail
  refine HEXT.out.mono ?_
  rintro e W1 ⟨rfl, hb1'⟩
  have HB1 := Lib.hid (below_step HB0.out hb1')
  have hsl := HSL.out
  clear hb1' HEXT c3 hW0 HB0 HSL
  go_wp2_with fail
  go_loopw [10, 11, 41] (fun v y i W => y = .int .i64 (nx : Int) ∧ ∃ (k q cap : Nat) (A : Option Addr) (l : List ByteArray), k ≤ K ∧ q ≤ k ∧ v = .slice A q cap ∧ i = .int .i64 (k : Int) ∧
      Hid (OwnT w W A q cap l ∧ l.map byt = (rs.take k).map (rowF zs col) ∧ (rs.take k).any (badF zs col) = false ∧ ∀ s ∈ l, s.size ≤ 1000000)) (fun _ _ i _ => K - (intOf i).toNat)
  case atStart => exact ⟨rfl, 0, 0, 0, none, [], by omega, by omega, rfl, rfl, OwnT.nil w W1 HB1.out, rfl, rfl, by simp⟩
  case round =>
    obtain ⟨rfl, k, q, cap, A, l, hk, hq, rfl, rfl, HK⟩ := hrel
    by_cases hlt : k < K
    · have dk : (k : Int) < (K : Int) := by omega
      obtain ⟨r1, r2, r3, r4⟩ := HRS.out k hlt
      obtain ⟨bL, offL, hBL, hbL, hcL⟩ := ((HRD.out.2 w HRD.out.1).below HK.out.1.2.2.1).addr (by rw [HL.out.2.1]; omega)
      subst hBL
      obtain ⟨f0, f1, f2⟩ := hcL k (by rw [HL.out.2.1]; exact hlt)
      obtain ⟨g, hg⟩ : ∃ g, blkF zs (lnAt rs k) = g := ⟨_, rfl⟩
      obtain ⟨iw, hiw⟩ : ∃ iw, indF zs (lnAt rs k) = iw := ⟨_, rfl⟩
      have hib := indF_le zs (lnAt rs k) r1
      rw [hiw] at r3 hib
      rw [hg] at r3
      obtain ⟨x, hx⟩ : ∃ x, lnAt rs k = x := ⟨_, rfl⟩
      rw [hx] at r1 r2 r4 f0 f1 f2 hg hiw hib
      have HG := Lib.hid (And.intro hg (And.intro hiw r4))
      clear hg hiw r4 hcL hx
      go_wp2_with fail
      obtain ⟨V, hV⟩ : ∃ V, wr.alloc (.cells #[.int .i64 (x.f : Int), .int .i64 (x.t : Int), .int .i64 (x.n : Int)] 63) = V := ⟨_, rfl⟩
      have hvg : V.heap[wr.heap.size]? = some (.cells #[.int .i64 (x.f : Int), .int .i64 (x.t : Int), .int .i64 (x.n : Int)] 63) := by rw [← hV]; exact heap_alloc_new _ _
      have hvs : wr.heap.size < V.heap.size := by rw [← hV]; simp
      have HVB : Hid (Below wr.heap.size wr V) := by rw [← hV]; exact (Below.refl _ _).alloc (Nat.le_refl _) _
      have HC : Hid (∀ X, Below V.heap.size V X → X.cell? ⟨wr.heap.size, 0, none⟩ = some (.int .i64 (x.f : Int)) ∧ X.cell? ⟨wr.heap.size, 1, none⟩ = some (.int .i64 (x.t : Int)) ∧ X.cell? ⟨wr.heap.size, 2, none⟩ = some (.int .i64 (x.n : Int))) := fun X hX => by
        have := (hX.block _ hvs).trans hvg
        refine ⟨?_, ?_, ?_⟩ <;> simp [World.cell?, this]
      rw [hV]
      clear hV hvg f0 f1 f2
      refine (blank_any b off n c zs x V HL.out.1 hnc (by omega) (HR.out.below (below_step HK.out.1.2.2.1 HVB.out)) r1 r2 g HG.out.1).mono ?_
      rintro e W2 ⟨rfl, hb2'⟩
      obtain ⟨k0, k1, k2⟩ := HC.out W2 hb2'
      have HB2 := Lib.hid hb2'
      clear hb2'
      cases g with
      | false =>
        have hcol : col ≤ iw := r3 rfl
        go_wp2_with fail
        refine (content_any b off n c zs x W2 HL.out.1 hnc (by omega) (HR.out.below (below_step HK.out.1.2.2.1 (below_step HVB.out HB2.out))) r1 r2).mono ?_
        rintro e W3 ⟨A3, rfl, hA3, hr3, hb3⟩
        have hcl := cont_len zs x (by rw [HL.out.1]; exact r2)
        have hcb : Byte (cont zs x) := (HB.out.drop _).take _
        obtain ⟨A4, hs4, hA4, hr4⟩ := slice_l A3 (x.t - x.f) (c - x.f) col (cont zs x) hcl (by omega) hA3 (by omega)
        have hcv := run_string_rd W3 A4 (x.t - x.f - col) (c - x.f - col) ((cont zs x).drop col) (by rw [List.length_drop, hcl]) (hr4 W3 (hr3.below hb3))
        have hby := byt_strOfNums ((cont zs x).drop col) (hcb.drop col)
        generalize strOfNums ((cont zs x).drop col) = r at *
        have hrs' : r.size ≤ 100000 := by rw [← byt_len, hby, List.length_drop, hcl]; omega
        have HB3 := Lib.hid (below_step HVB.out (below_step HB2.out hb3))
        obtain ⟨A5, cap5, W5, hrun5, hown5⟩ := append_txt (HK.out.1.below HB3.out) [r] 1 rfl #[.string r] rfl (by omega) W3.heap.size rfl (q + 1) rfl (l ++ [r]) rfl
        have HBY := Lib.hid hby
        have HRUN := Lib.hid hrun5
        have HOWN := Lib.hid hown5
        clear hA3 hr3 hb3 hcl hcb hA4 hr4 hby hrun5 hown5 k0 k1 k2
        go_wp2_with (at_builtin; refine wpList_append_known rfl _ (.tmp 56) 22 rfl _ _ _ _ rfl rfl HRUN.out ?_)
        go_roundw
        case rel =>
          refine ⟨rfl, k + 1, q + 1, cap5, A5, l ++ [r], by omega, by omega, rfl, by go_num, HOWN.out, ?_, ?_, ?_⟩
          · rw [HG.out.2.2, List.map_append, List.map_append, HK.out.2.1]
            congr 1
            simp [rowF, HG.out.1, HBY.out]
          · rw [HG.out.2.2, List.any_append, HK.out.2.2.1]
            simp [badF, HG.out.1]
          · intro s hs
            rcases List.mem_append.1 hs with h' | h'
            · exact HK.out.2.2.2 s h'
            · simp at h'; subst h'; omega
        case measure => simp [intOf]; omega
      | true =>
        go_wp2_with fail
        refine (indent_any b off n c zs x W2 HL.out.1 hnc (by omega) (HR.out.below (below_step HK.out.1.2.2.1 (below_step HVB.out HB2.out))) r1 r2 iw HG.out.2.1).mono ?_
        rintro e W3 ⟨rfl, hb3⟩
        have HB3 := Lib.hid (below_step HVB.out (below_step HB2.out hb3))
        clear hb3 k0 k1 k2
        by_cases hbad : col < iw
        · have dcol : (col : Int) < (iw : Int) := by omega
          have hany : rs.any (badF zs col) = true := by
            rw [List.any_eq_true]
            refine ⟨x, ?_, by simp [badF, HG.out.1, HG.out.2.1, hbad]⟩
            have h1 : x ∈ rs.take (k + 1) := by rw [HG.out.2.2]; simp
            exact List.mem_of_mem_take h1
          have hbn : bodyF zs ls first col nx = none := by rw [HL.out.2.2, if_pos hany]
          have HBN := Lib.hid hbn
          clear hany hbn
          go_wp2_with fail
          refine bodyPost_ret (v := .tuple #[.slice none 0 0, .int .i64 0, .bool false]) (by simp [results, Try.results18, go_sem]) rfl ?_
          rw [HBN.out]
          exact ⟨none, 0, 0, [], OwnT.nil w W3 (below_step HK.out.1.2.2.1 HB3.out), by simp, rfl, rfl, rfl, rfl, rfl⟩
        · have dcol : ¬ col < iw := hbad
          have dcol' : decide (col < iw) = false := decide_eq_false hbad
          obtain ⟨A5, cap5, W5, hrun5, hown5⟩ := append_txt (HK.out.1.below HB3.out) [⟨#[]⟩] 1 rfl #[.string ⟨#[]⟩] rfl (by omega) W3.heap.size rfl (q + 1) rfl (l ++ [⟨#[]⟩]) rfl
          have HRUN := Lib.hid hrun5
          have HOWN := Lib.hid hown5
          clear hrun5 hown5
          go_wp2_with (at_builtin; refine wpList_append_known rfl _ (.tmp 64) 22 rfl _ _ _ _ rfl rfl HRUN.out ?_)
          go_roundw
          case rel =>
            refine ⟨rfl, k + 1, q + 1, cap5, A5, l ++ [⟨#[]⟩], by omega, by omega, rfl, by go_num, HOWN.out, ?_, ?_, ?_⟩
            · rw [HG.out.2.2, List.map_append, List.map_append, HK.out.2.1]
              congr 1
              simp [rowF, HG.out.1, byt]
            · rw [HG.out.2.2, List.any_append, HK.out.2.2.1]
              simp [badF, HG.out.1, HG.out.2.1]; omega
            · intro s hs
              rcases List.mem_append.1 hs with h' | h'
              · exact HK.out.2.2.2 s h'
              · simp at h'; subst h'; decide
          case measure => simp [intOf]; omega
    · obtain rfl : k = K := by omega
      have dk : decide (k < k) = false := decide_eq_false (by omega)
      have hfull : rs.take k = rs := List.take_of_length_le (by rw [HL.out.2.1]; omega)
      have hbn : bodyF zs ls first col nx = some (rs.map (rowF zs col), nx) := by
        have := HK.out.2.2.1
        rw [hfull] at this
        rw [HL.out.2.2, if_neg (by rw [this]; simp)]
      have HBN := Lib.hid (And.intro hbn hfull)
      clear hbn hfull
      go_wp2_with fail
      refine bodyPost_ret (v := .tuple #[.slice A q cap, .int .i64 (nx : Int), .bool true]) (by simp [results, Try.results18, go_sem]) rfl ?_
      rw [HBN.out.1]
      refine ⟨A, q, cap, l, HK.out.1, HK.out.2.2.2, rfl, ?_⟩
      rw [HK.out.2.1, HBN.out.2]
end Go.Proofs.Ytodnfdkcmhiljaa
