/- The document's own answer (scholiumref01) for Body. -/
import Derived.Test.YtodnfdkcmhiljaaFdRBody
import Derived.Test.YtodnfdkcmhiljaaFdBody
namespace Go.Proofs.Ytodnfdkcmhiljaa
open Go.RowKit
set_option linter.unusedVariables false

/-- The column and the line behind the last one, as the document has them. -/
def refExt (zs : List Int) (ls : List Ln) (first : Nat) (parent : Int) (dg : Nat) : Nat × Nat :=
  let k := first + nfill zs (ls.drop first)
  let base := (max parent 0).toNat
  if 0 < dg then (base + dg, first + nblg zs (base + dg) (ls.drop first))
  else if onlyF zs ls k parent = true then (base + 1, first + nfill zs (ls.drop first))
  else (indF zs (lnAt ls k), first + nblg zs (indF zs (lnAt ls k)) (ls.drop first))
theorem rx_dg (zs : List Int) (ls : List Ln) (first : Nat) (parent : Int) (dg col : Nat) (h : 0 < dg) (hc : (max parent 0).toNat + dg = col) : refExt zs ls first parent dg = (col, first + nblg zs col (ls.drop first)) := by
  unfold refExt; simp only []; rw [if_pos h, hc]
theorem rx_only (zs : List Int) (ls : List Ln) (first : Nat) (parent : Int) (j base : Nat) (hj : first + nfill zs (ls.drop first) = j) (hb : (max parent 0).toNat = base) (ho : onlyF zs ls j parent = true) : refExt zs ls first parent 0 = (base + 1, first + nfill zs (ls.drop first)) := by
  unfold refExt; simp only []; rw [if_neg (by omega), hj, hb, if_pos ho]
theorem rx_ind (zs : List Int) (ls : List Ln) (first : Nat) (parent : Int) (j col : Nat) (hj : first + nfill zs (ls.drop first) = j) (hc : indF zs (lnAt ls j) = col) (ho : onlyF zs ls j parent = false) : refExt zs ls first parent 0 = (col, first + nblg zs col (ls.drop first)) := by
  unfold refExt; simp only []; rw [if_neg (by omega), hj, hc, if_neg (by rw [ho]; simp)]
theorem take_ln (ls : List Ln) (first p : Nat) (h1 : first ≤ p) (h2 : p < ls.length) : (ls.drop first).take (p + 1 - first) = (ls.drop first).take (p - first) ++ [lnAt ls p] := by
  rw [show p + 1 - first = (p - first) + 1 by omega, List.take_add_one, List.getElem?_drop, show first + (p - first) = p by omega, lnAt_some h2]; rfl
theorem body_none (zs : List Int) (ls : List Ln) (first col nx p : Nat) (h1 : first ≤ p) (h2 : p < nx) (h3 : p < ls.length) (hb : badF zs col (lnAt ls p) = true) : bodyF zs ls first col nx = none := by
  unfold bodyF
  rw [if_pos ?_]
  rw [List.any_eq_true]
  refine ⟨lnAt ls p, ?_, hb⟩
  rw [List.mem_iff_getElem?]
  exact ⟨p - first, by rw [List.getElem?_take, if_pos (by omega), List.getElem?_drop, show first + (p - first) = p by omega]; exact lnAt_some h3⟩
theorem body_some (zs : List Int) (ls : List Ln) (first col nx : Nat) (hb : ((ls.drop first).take (nx - first)).any (badF zs col) = false) : bodyF zs ls first col nx = some (((ls.drop first).take (nx - first)).map (rowF zs col), nx) := by
  unfold bodyF
  rw [if_neg (by rw [hb]; simp)]
theorem cont_drop (zs : List Int) (x : Ln) (col : Nat) (h : x.f + col ≤ x.t) : (zs.drop (x.f + col)).take (x.t - (x.f + col)) = (cont zs x).drop col := by
  unfold cont
  rw [List.drop_take, List.drop_drop, show x.t - x.f - col = x.t - (x.f + col) by omega]

theorem OwnT.wider {w W0 W : World} {A : Option Addr} {m cap : Nat} {l : List ByteArray} (h : OwnT W0 W A m cap l) (hb : Below w.heap.size w W0) : OwnT w W A m cap l := by
  obtain ⟨h1, h2, h3, h4⟩ := h
  refine ⟨h1, ?_, below_step hb h3, h4⟩
  obtain ⟨g1, g2⟩ := h2
  refine ⟨g1, ?_⟩
  rcases g2 with g2 | ⟨g, cap', cur, e, hg, r⟩
  · exact .inl g2
  · exact .inr ⟨g, cap', cur, e, Nat.le_trans hb.size hg, r⟩

set_option maxHeartbeats 16000000 in
set_option maxRecDepth 100000 in
theorem refBody_neg (b off : Nat) (n c : Nat) (zs : List Int) (B : Option Addr) (m d : Nat) (ls : List Ln) (first : Nat) (P : Nat) (fo st ke : Bool) (dg : Nat) (w : World) (hl : zs.length = n) (hnc : n ≤ c) (hm : c ≤ 9223372036854775807) (hn : n ≤ 100000) (hb : Byte zs) (hr : RdB w (some ⟨b, off, none⟩) zs)
    (hls : ls.length = m) (hmd : m ≤ d) (hm1 : m ≤ 100000) (hrl : RdL w B ls) (hv : Lies n ls) (hf : first ≤ m) (hp2 : P ≤ 100000) (hdg : dg ≤ 100000) :
    Calls Try.prog 26 #[.slice (some ⟨b, off, none⟩) n c, .slice B m d, .int .i64 (first : Int), .int .i64 (-1), .agg #[.bool fo, .bool st, .bool ke, .int .i64 (dg : Int)]] w (BodyP (bodyF zs ls first (refExt zs ls first (-1) dg).1 (refExt zs ls first (-1) dg).2) w) := by
  have HR := Lib.hid hr
  have HB := Lib.hid hb
  have HL := Lib.hid (And.intro hl hls)
  have HRL := Lib.hid hrl
  have HV := Lib.hid hv
  clear hr hb hl hls hrl hv
  obtain ⟨W0, hW0⟩ : ∃ x, w.alloc (.cells #[.bool fo, .bool st, .bool ke, .int .i64 (dg : Int)] 41) = x := ⟨_, rfl⟩
  have HB0 : Hid (Below w.heap.size w W0) := by rw [← hW0]; exact (Below.refl _ _).alloc (Nat.le_refl _) _
  have hc3 : W0.cell? ⟨w.heap.size, 3, none⟩ = some (.int .i64 (dg : Int)) := by rw [← hW0]; simp [World.cell?_alloc_new]
  go_enter Try.func26, Try.ntmps26
  go_wp2_with fail
  go_loopw [13] (fun i W => ∃ j : Nat, first ≤ j ∧ j ≤ m ∧ i = .int .i64 (j : Int) ∧ Hid (first + nfill zs (ls.drop first) = j + nfill zs (ls.drop j) ∧ Below W0.heap.size W0 W)) (fun i _ => m - (intOf i).toNat)
  case atStart => exact ⟨first, by omega, by omega, rfl, rfl, (by first | exact Below.refl _ _ | (rw [hW0]; exact Below.refl _ _))⟩
  case round =>
    obtain ⟨j, hj, hjm, rfl, HK⟩ := hrel
    have c3 := cell_keep HK.out.2 hc3
    by_cases hlt : j < m
    · have hst := nfill_step zs ls j (by rw [HL.out.2]; exact hlt)
      have dj : (j : Int) < (m : Int) := by omega
      obtain ⟨g, hg⟩ : ∃ g, blkF zs (lnAt ls j) = g := ⟨_, rfl⟩
      rw [hg] at hst
      have HG := Lib.hid hg
      have HST := Lib.hid hst
      clear hg hst
      obtain ⟨bL, offL, hBL, hbL, hcL⟩ := (HRL.out.below (below_step HB0.out HK.out.2)).addr (by rw [HL.out.2]; omega)
      obtain ⟨f0, f1, f2⟩ := hcL j (by rw [HL.out.2]; exact hlt)
      obtain ⟨v0, v1⟩ := HV.out j (by rw [HL.out.2]; exact hlt)
      clear hcL
      obtain ⟨x, hx⟩ : ∃ x, lnAt ls j = x := ⟨_, rfl⟩
      rw [hx] at f0 f1 f2 v0 v1 HG
      clear hx
      subst hBL
      go_wp2_with fail
      refine (refBlank_any b off n c zs x wr HL.out.1 hnc (by omega) (HR.out.below (below_step HB0.out HK.out.2)) v0 v1 g HG.out).mono ?_
      rintro e WQ ⟨rfl, hbq⟩
      have c3 := cell_keep hbq c3
      have HBQ := Lib.hid (below_step HK.out.2 hbq)
      clear hbq f0 f1 f2 v0 v1 HG
      cases g with
      | true =>
        go_wp2_with fail
        go_roundw
        case rel =>
          refine ⟨j + 1, by omega, by omega, by go_num, ?_, HBQ.out⟩
          rw [HK.out.1, HST.out]; simp; omega
        case measure => simp [intOf]; omega
      | false =>
        have HJ : Hid (first + nfill zs (ls.drop first) = j) := by
          show _ = _
          rw [HK.out.1, HST.out]; simp
        clear HK HST
        by_cases hd0 : 0 < dg
        · have dd0 : ((dg : Int) == 0) = false := beq_eq_false_iff_ne.2 (by omega)
          have dd1 : ¬ dg = 0 := by omega
          obtain ⟨col, hcol⟩ : ∃ col, 0 + dg = col := ⟨_, rfl⟩
          have he := rx_dg zs ls first (-1) dg col hd0 (by omega)
          have HE := Lib.hid he
          have hcb : col ≤ 200000 := by omega
          have hci : max (-1) (0 : Int) + (dg : Int) = (col : Int) := by omega
          have HCI := Lib.hid hci
          clear he hcol hci
          go_wp2_with fail
          first | rw [HCI.out] | skip
          clear c3
          go_loopw [16, 17] (fun v i W => ∃ (p q cap : Nat) (A : Option Addr) (l : List ByteArray), first ≤ p ∧ p ≤ m ∧ q ≤ p ∧ v = .slice A q cap ∧ i = .int .i64 (p : Int) ∧
              Hid (OwnT W0 W A q cap l ∧ l.map byt = ((ls.drop first).take (p - first)).map (rowF zs (col)) ∧ ((ls.drop first).take (p - first)).any (badF zs (col)) = false ∧ (∀ s ∈ l, s.size ≤ 1000000) ∧ first + nblg zs col (ls.drop first) = p + nblg zs col (ls.drop p) ∧ Below W0.heap.size W0 W)) (fun _ i _ => m - (intOf i).toNat)
          case atStart => exact ⟨first, 0, 0, none, [], by omega, by omega, by omega, rfl, rfl, OwnT.nil W0 _ HBQ.out, by simp, by simp, by simp, rfl, HBQ.out⟩
          case round =>
            obtain ⟨p, q, cap, A, l, hp, hpm, hqp, rfl, rfl, HK⟩ := hrel
            by_cases hlt2 : p < m
            · have hst2 := nblg_step zs col ls p (by rw [HL.out.2]; exact hlt2)
              have hbw := below_step HB0.out HK.out.2.2.2.2.2
              obtain ⟨bL, offL, hBLX, hbL, hcL⟩ := (HRL.out.below hbw).addr (by rw [HL.out.2]; omega)
              first | subst hBLX | (injection hBLX with hBLX; injection hBLX with hq1 hq2; subst hq1 hq2)
              obtain ⟨f0, f1, f2⟩ := hcL p (by rw [HL.out.2]; exact hlt2)
              obtain ⟨r1, r2⟩ := HV.out p (by rw [HL.out.2]; exact hlt2)
              have htl := take_ln ls first p hp (by rw [HL.out.2]; exact hlt2)
              have hbn := fun nx => body_none zs ls first (col) nx p hp
              have dp : (p : Int) < (m : Int) := by omega
              obtain ⟨g2, hg2⟩ : ∃ g, blkF zs (lnAt ls p) = g := ⟨_, rfl⟩
              obtain ⟨i2, hi2⟩ : ∃ iw, indF zs (lnAt ls p) = iw := ⟨_, rfl⟩
              obtain ⟨k2, hk2⟩ : ∃ mk, dmk zs (lnAt ls p) = mk := ⟨_, rfl⟩
              have hib2 := indF_le zs (lnAt ls p) r1
              rw [hi2] at hib2
              have hbl2 := blk_len zs (lnAt ls p) r1
              rw [hg2, hi2] at hbl2
              obtain ⟨x, hx⟩ : ∃ x, lnAt ls p = x := ⟨_, rfl⟩
              rw [hx] at f0 f1 f2 r1 r2 htl hbn hg2 hi2 hk2 hib2 hbl2 hst2
              have HX := Lib.hid (And.intro hg2 (And.intro hi2 (And.intro hk2 (And.intro htl (And.intro hbn hst2)))))
              clear hg2 hi2 hk2 htl hbn hst2 hcL hx hbw
              go_wp2_with fail
              obtain ⟨V, hV⟩ : ∃ V, wr.alloc (.cells #[.int .i64 (x.f : Int), .int .i64 (x.t : Int), .int .i64 (x.n : Int)] 73) = V := ⟨_, rfl⟩
              have hvg : V.heap[wr.heap.size]? = some (.cells #[.int .i64 (x.f : Int), .int .i64 (x.t : Int), .int .i64 (x.n : Int)] 73) := by rw [← hV]; exact heap_alloc_new _ _
              have hvs : wr.heap.size < V.heap.size := by rw [← hV]; simp
              have HVB : Hid (Below wr.heap.size wr V) := by rw [← hV]; exact (Below.refl _ _).alloc (Nat.le_refl _) _
              have HC : Hid (∀ X, Below V.heap.size V X → X.cell? ⟨wr.heap.size, 0, none⟩ = some (.int .i64 (x.f : Int)) ∧ X.cell? ⟨wr.heap.size, 1, none⟩ = some (.int .i64 (x.t : Int)) ∧ X.cell? ⟨wr.heap.size, 2, none⟩ = some (.int .i64 (x.n : Int))) := fun X hX => by
                have := (hX.block _ hvs).trans hvg
                refine ⟨?_, ?_, ?_⟩ <;> simp [World.cell?, this]
              rw [hV]
              clear hV hvg f0 f1 f2
              refine (refBlank_any b off n c zs x V HL.out.1 hnc (by omega) (HR.out.below (below_step (below_step HB0.out HK.out.2.2.2.2.2) HVB.out)) r1 r2 g2 HX.out.1).mono ?_
              rintro e W2 ⟨rfl, hb2'⟩
              obtain ⟨k0, k1, k3⟩ := HC.out W2 hb2'
              have HB2 := Lib.hid (below_step HVB.out hb2')
              have HB2V := Lib.hid hb2'
              clear hb2'
              cases g2 with
              | true =>
                have hil : i2 = x.t - x.f := hbl2 rfl
                have HIL := Lib.hid hil
                have hbelong : first + nblg zs col (ls.drop first) = p + (nblg zs col (ls.drop (p + 1)) + 1) := by
                  rw [HK.out.2.2.2.2.1, HX.out.2.2.2.2.2]; simp [blg, HX.out.1]
                have HBEL := Lib.hid hbelong
                clear hbelong hil
                by_cases hbad : col < x.t - x.f
                · have dcol : (((col : Nat)) : Int) < (x.t : Int) - (x.f : Int) := by omega
                  have dcol2 := dcol
                  push_cast at dcol2
                  have hnone := HX.out.2.2.2.2.1 (first + nblg zs col (ls.drop first)) (by rw [HBEL.out]; omega) (by rw [HL.out.2]; exact hlt2) (by simp [badF, HX.out.1, HX.out.2.1, HIL.out, hbad])
                  have HNO := Lib.hid hnone
                  clear hnone
                  go_wp2_with fail
                  refine bodyPost_ret (v := .tuple #[.slice none 0 0, .int .i64 0, .bool false]) (by simp [results, Try.results26, go_sem]) rfl ?_
                  rw [HE.out]
                  simp only []
                  rw [HNO.out]
                  exact ⟨none, 0, 0, [], OwnT.nil w W2 (below_step (below_step HB0.out HK.out.2.2.2.2.2) HB2.out), by simp, rfl, rfl, rfl, rfl, rfl⟩
                · have dcol : ¬ (((col : Nat)) : Int) < (x.t : Int) - (x.f : Int) := by omega
                  have dcol2 := dcol
                  push_cast at dcol2
                  have dcol3 : decide ((((col : Nat)) : Int) < (x.t : Int) - (x.f : Int)) = false := decide_eq_false dcol
                  push_cast at dcol3
                  obtain ⟨A5, cap5, W5, hrun5, hown5⟩ := append_txt (HK.out.1.below HB2.out) [⟨#[]⟩] 1 rfl #[.string ⟨#[]⟩] rfl (by omega) W2.heap.size rfl (q + 1) rfl (l ++ [⟨#[]⟩]) rfl
                  have HRUN := Lib.hid hrun5
                  have HOWN := Lib.hid hown5
                  have HW5 : Hid (Below W0.heap.size W0 W5) := HOWN.out.2.2.1
                  clear hrun5 hown5
                  go_wp2_with (at_builtin; refine wpList_append_known rfl _ (.tmp 97) 22 rfl _ _ _ _ rfl rfl HRUN.out ?_)
                  go_roundw
                  case rel =>
                    refine ⟨p + 1, q + 1, cap5, A5, l ++ [⟨#[]⟩], by omega, by omega, by omega, rfl, by go_num, HOWN.out, ?_, ?_, ?_, ?_, HW5.out⟩
                    · rw [HX.out.2.2.2.1, List.map_append, List.map_append, HK.out.2.1]
                      congr 1
                      simp [rowF, HX.out.1, byt]
                    · rw [HX.out.2.2.2.1, List.any_append, HK.out.2.2.1]
                      simp [badF, HX.out.1, HX.out.2.1, HIL.out]; omega
                    · intro s hs
                      rcases List.mem_append.1 hs with h' | h'
                      · exact HK.out.2.2.2.1 s h'
                      · simp at h'; subst h'; decide
                    · rw [HBEL.out]; omega
                  case measure => simp [intOf]; omega
              | false =>
                go_wp2_with fail
                refine (refIndent_any b off n c zs x W2 HL.out.1 hnc (by omega) (HR.out.below (below_step (below_step HB0.out HK.out.2.2.2.2.2) HB2.out)) r1 r2 i2 HX.out.2.1).mono ?_
                rintro e W3 ⟨rfl, hb3⟩
                obtain ⟨e0, e1, e2⟩ := HC.out W3 (below_step HB2V.out hb3)
                have HB3 := Lib.hid (below_step HB2.out hb3)
                have HB3V := Lib.hid (below_step HB2V.out hb3)
                clear hb3 k0 k1 k3
                by_cases hic : i2 < col
                · have dic : (i2 : Int) < (col : Int) := by omega
                  have WHYC : Hid (¬ col ≤ i2) := by show ¬ _; omega
                  have hnx : first + nblg zs col (ls.drop first) = p := by
                    rw [HK.out.2.2.2.2.1, HX.out.2.2.2.2.2]; simp [blg, HX.out.1, HX.out.2.1, WHYC.out]
                  have HNX := Lib.hid hnx
                  clear hnx
                  go_wp2_with fail
                  refine bodyPost_ret (v := .tuple #[.slice A q cap, .int .i64 (p : Int), .bool true]) (by simp [results, Try.results26, go_sem]) rfl ?_
                  rw [HE.out]
                  simp only []
                  rw [HNX.out, body_some zs ls first _ p HK.out.2.2.1]
                  exact ⟨A, q, cap, l, (HK.out.1.below HB3.out).wider HB0.out, HK.out.2.2.2.1, rfl, HK.out.2.1⟩
                · have dic : decide (i2 < col) = false := decide_eq_false hic
                  have dic' : ¬ i2 < col := hic
                  go_wp2_with fail
                  refine (refStop_any b off n c zs x W3 HL.out.1 hnc hm (by omega) HB.out (HR.out.below (below_step (below_step HB0.out HK.out.2.2.2.2.2) HB3.out)) r1 r2 k2 HX.out.2.2.1).mono ?_
                  rintro e W4 ⟨rfl, hb4⟩
                  obtain ⟨g0, g1, g3⟩ := HC.out W4 (below_step HB3V.out hb4)
                  have HB4 := Lib.hid (below_step HB3.out hb4)
                  clear hb4 e0 e1 e2
                  cases k2 with
                  | true =>
                    have hnx : first + nblg zs col (ls.drop first) = p := by
                      rw [HK.out.2.2.2.2.1, HX.out.2.2.2.2.2]; simp [blg, HX.out.1, HX.out.2.2.1]
                    have HNX := Lib.hid hnx
                    clear hnx
                    go_wp2_with fail
                    refine bodyPost_ret (v := .tuple #[.slice A q cap, .int .i64 (p : Int), .bool true]) (by simp [results, Try.results26, go_sem]) rfl ?_
                    rw [HE.out]
                    simp only []
                    rw [HNX.out, body_some zs ls first _ p HK.out.2.2.1]
                    exact ⟨A, q, cap, l, (HK.out.1.below HB4.out).wider HB0.out, HK.out.2.2.2.1, rfl, HK.out.2.1⟩
                  | false =>
                    have hbelong : first + nblg zs col (ls.drop first) = p + (nblg zs col (ls.drop (p + 1)) + 1) := by
                      rw [HK.out.2.2.2.2.1, HX.out.2.2.2.2.2]
                      have : col ≤ i2 := by omega
                      simp [blg, HX.out.1, HX.out.2.1, HX.out.2.2.1, this]
                    have HBEL := Lib.hid hbelong
                    clear hbelong
                    have hcl := cont_drop zs x (col) (by omega)
                    have hcb : Byte ((cont zs x).drop (col)) := ((HB.out.drop _).take _).drop _
                    obtain ⟨A4, hs4, hA4, hr4⟩ := slice_lh (some ⟨b, off, none⟩) n c (x.f + col) x.t zs HL.out.1 hnc (fun h => by cases h) (by omega) r2
                    rw [hcl] at hr4
                    have hs4' : ∀ W, (Instr.slice 24 (.slice (some ⟨b, off, none⟩) n c) (some (.int .i64 ((x.f : Int) + (col : Int)))) (some (.int .i64 (x.t : Int))) none).run Try.prog W = .ok (.slice A4 (x.t - (x.f + col)) (c - (x.f + col))) W := fun W => hs4 W
                    have hlen : ((cont zs x).drop (col)).length = x.t - (x.f + col) := by rw [← hcl, List.length_take, List.length_drop, HL.out.1]; omega
                    have hcv := run_string_rd W4 A4 (x.t - (x.f + col)) (c - (x.f + col)) ((cont zs x).drop (col)) hlen (hr4 W4 (HR.out.below (below_step (below_step HB0.out HK.out.2.2.2.2.2) HB4.out)))
                    have hby := byt_strOfNums ((cont zs x).drop (col)) hcb
                    generalize strOfNums ((cont zs x).drop (col)) = r at *
                    have hrs' : r.size ≤ 100000 := by rw [← byt_len, hby, hlen]; omega
                    obtain ⟨A5, cap5, W5, hrun5, hown5⟩ := append_txt (HK.out.1.below HB4.out) [r] 1 rfl #[.string r] rfl (by omega) W4.heap.size rfl (q + 1) rfl (l ++ [r]) rfl
                    have HBY := Lib.hid hby
                    have HRUN := Lib.hid hrun5
                    have HOWN := Lib.hid hown5
                    have HW5 : Hid (Below W0.heap.size W0 W5) := HOWN.out.2.2.1
                    clear hcl hcb hs4 hA4 hr4 hlen hby hrun5 hown5
                    go_wp2_with (at_builtin; refine wpList_append_known rfl _ (.tmp 122) 22 rfl _ _ _ _ rfl rfl HRUN.out ?_)
                    go_roundw
                    case rel =>
                      refine ⟨p + 1, q + 1, cap5, A5, l ++ [r], by omega, by omega, by omega, rfl, by go_num, HOWN.out, ?_, ?_, ?_, ?_, HW5.out⟩
                      · rw [HX.out.2.2.2.1, List.map_append, List.map_append, HK.out.2.1]
                        congr 1
                        simp [rowF, HX.out.1, HBY.out]
                      · rw [HX.out.2.2.2.1, List.any_append, HK.out.2.2.1]
                        simp [badF, HX.out.1]
                      · intro s hs
                        rcases List.mem_append.1 hs with h' | h'
                        · exact HK.out.2.2.2.1 s h'
                        · simp at h'; subst h'; omega
                      · rw [HBEL.out]; omega
                    case measure => simp [intOf]; omega
            · obtain rfl : p = m := by omega
              have dp : decide (p < p) = false := decide_eq_false (by omega)
              have hnx : first + nblg zs col (ls.drop first) = p := by
                rw [HK.out.2.2.2.2.1, List.drop_eq_nil_of_le (by rw [HL.out.2]; omega)]; simp [nfill, nblg]
              have HNX := Lib.hid hnx
              clear hnx
              go_wp2_with fail
              refine bodyPost_ret (v := .tuple #[.slice A q cap, .int .i64 (p : Int), .bool true]) (by simp [results, Try.results26, go_sem]) rfl ?_
              rw [HE.out]
              simp only []
              rw [HNX.out, body_some zs ls first _ p HK.out.2.2.1]
              exact ⟨A, q, cap, l, HK.out.1.wider HB0.out, HK.out.2.2.2.1, rfl, HK.out.2.1⟩
        · have HDG : Hid (dg = 0) := by show dg = 0; omega
          have dd0 : ((dg : Int) == 0) = true := beq_iff_eq.2 (by omega)
          have deq' : ¬ m ≤ j := by omega
          have deq : decide (m ≤ j) = false := decide_eq_false deq'
          have deq2 : (j == m) = false := beq_eq_false_iff_ne.2 (by omega)
          obtain ⟨bL2, offL2, hBL2, hbL2, hcL⟩ := (HRL.out.below (below_step HB0.out HBQ.out)).addr (by rw [HL.out.2]; omega)
          injection hBL2 with hBL2
          injection hBL2 with hBL3 hBL4
          subst hBL3 hBL4
          obtain ⟨f0, f1, f2⟩ := hcL j (by rw [HL.out.2]; exact hlt)
          obtain ⟨v0, v1⟩ := HV.out j (by rw [HL.out.2]; exact hlt)
          obtain ⟨iw, hiw⟩ : ∃ iw, indF zs (lnAt ls j) = iw := ⟨_, rfl⟩
          obtain ⟨mk, hmk⟩ : ∃ mk, dmk zs (lnAt ls j) = mk := ⟨_, rfl⟩
          have hol : onlyF zs ls j (-1) = (decide ((iw : Int) ≤ (-1)) || mk) := by
            unfold onlyF; rw [hiw, hmk, HL.out.2, deq2]; rfl
          have HX := Lib.hid (And.intro hiw (And.intro hmk hol))
          have hib := indF_le zs (lnAt ls j) v0
          rw [hiw] at hib
          clear hcL hiw hmk hol
          have hext : onlyF zs ls j (-1) = false → refExt zs ls first (-1) dg = (iw, first + nblg zs iw (ls.drop first)) := fun ho => by
            rw [HDG.out]; exact rx_ind zs ls first (-1) j iw HJ.out HX.out.1 ho
          have hextO : onlyF zs ls j (-1) = true → refExt zs ls first (-1) dg = (1, first + nfill zs (ls.drop first)) := fun ho => by
            rw [HDG.out]; exact rx_only zs ls first (-1) j (0) HJ.out (by omega) ho
          have HEX := Lib.hid (And.intro hext hextO)
          clear hext hextO
          generalize lnAt ls j = x at *
          have hibn : iw ≤ n := by omega
          go_wp2_with fail
          refine (refIndent_any b off n c zs x WQ HL.out.1 hnc (by omega) (HR.out.below (below_step HB0.out HBQ.out)) v0 v1 iw HX.out.1).mono ?_
          rintro e W3 ⟨rfl, hb3⟩
          obtain ⟨g0, g1, g2⟩ : W3.cell? ⟨bL, offL + j * 3, none⟩ = some (.int .i64 (x.f : Int)) ∧ W3.cell? ⟨bL, offL + j * 3 + 1, none⟩ = some (.int .i64 (x.t : Int)) ∧ W3.cell? ⟨bL, offL + j * 3 + 2, none⟩ = some (.int .i64 (x.n : Int)) := ⟨cell_keep hb3 f0, cell_keep hb3 f1, cell_keep hb3 f2⟩
          have HB3 := Lib.hid (below_step HBQ.out hb3)
          clear hb3 f0 f1 f2 c3
          by_cases hip : (iw : Int) ≤ (-1)
          · have he := HEX.out.2 (by rw [HX.out.2.2, decide_eq_true hip]; rfl)
            have HE := Lib.hid he
            clear he
            exfalso
            omega
          · have hipd : decide ((iw : Int) ≤ (-1)) = false := decide_eq_false hip
            have hx1 : ¬ (iw : Int) ≤ -1 := hip
            go_wp2_with fail
            refine (refStop_any b off n c zs x W3 HL.out.1 hnc hm (by omega) HB.out (HR.out.below (below_step HB0.out HB3.out)) v0 v1 mk HX.out.2.1).mono ?_
            rintro e W4 ⟨rfl, hb4⟩
            obtain ⟨k0, k1, k2⟩ : W4.cell? ⟨bL, offL + j * 3, none⟩ = some (.int .i64 (x.f : Int)) ∧ W4.cell? ⟨bL, offL + j * 3 + 1, none⟩ = some (.int .i64 (x.t : Int)) ∧ W4.cell? ⟨bL, offL + j * 3 + 2, none⟩ = some (.int .i64 (x.n : Int)) := ⟨cell_keep hb4 g0, cell_keep hb4 g1, cell_keep hb4 g2⟩
            have HB4 := Lib.hid (below_step HB3.out hb4)
            clear hb4 g0 g1 g2
            cases mk with
            | true =>
              have he := HEX.out.2 (by rw [HX.out.2.2]; simp)
              have HE := Lib.hid he
              clear he HBQ
              have HBQ := HB4
              go_wp2_with fail
              clear k0 k1 k2 HX HEX
              go_loopw [16, 17] (fun v i W => ∃ (p q cap : Nat) (A : Option Addr) (l : List ByteArray), first ≤ p ∧ p ≤ m ∧ q ≤ p ∧ v = .slice A q cap ∧ i = .int .i64 (p : Int) ∧
                  Hid (OwnT W0 W A q cap l ∧ l.map byt = ((ls.drop first).take (p - first)).map (rowF zs (1)) ∧ ((ls.drop first).take (p - first)).any (badF zs (1)) = false ∧ (∀ s ∈ l, s.size ≤ 1000000) ∧ first + nfill zs (ls.drop first) = p + nfill zs (ls.drop p) ∧ Below W0.heap.size W0 W)) (fun _ i _ => m - (intOf i).toNat)
              case atStart => exact ⟨first, 0, 0, none, [], by omega, by omega, by omega, rfl, rfl, OwnT.nil W0 _ HBQ.out, by simp, by simp, by simp, rfl, HBQ.out⟩
              case round =>
                obtain ⟨p, q, cap, A, l, hp, hpm, hqp, rfl, rfl, HK⟩ := hrel
                by_cases hlt2 : p < m
                · have hst2 := nfill_step zs ls p (by rw [HL.out.2]; exact hlt2)
                  have hbw := below_step HB0.out HK.out.2.2.2.2.2
                  obtain ⟨bL, offL, hBLX, hbL, hcL⟩ := (HRL.out.below hbw).addr (by rw [HL.out.2]; omega)
                  first | subst hBLX | (injection hBLX with hBLX; injection hBLX with hq1 hq2; subst hq1 hq2)
                  obtain ⟨f0, f1, f2⟩ := hcL p (by rw [HL.out.2]; exact hlt2)
                  obtain ⟨r1, r2⟩ := HV.out p (by rw [HL.out.2]; exact hlt2)
                  have htl := take_ln ls first p hp (by rw [HL.out.2]; exact hlt2)
                  have hbn := fun nx => body_none zs ls first (1) nx p hp
                  have dp : (p : Int) < (m : Int) := by omega
                  obtain ⟨g2, hg2⟩ : ∃ g, blkF zs (lnAt ls p) = g := ⟨_, rfl⟩
                  obtain ⟨i2, hi2⟩ : ∃ iw, indF zs (lnAt ls p) = iw := ⟨_, rfl⟩
                  obtain ⟨k2, hk2⟩ : ∃ mk, dmk zs (lnAt ls p) = mk := ⟨_, rfl⟩
                  have hib2 := indF_le zs (lnAt ls p) r1
                  rw [hi2] at hib2
                  have hbl2 := blk_len zs (lnAt ls p) r1
                  rw [hg2, hi2] at hbl2
                  obtain ⟨x, hx⟩ : ∃ x, lnAt ls p = x := ⟨_, rfl⟩
                  rw [hx] at f0 f1 f2 r1 r2 htl hbn hg2 hi2 hk2 hib2 hbl2 hst2
                  have HX := Lib.hid (And.intro hg2 (And.intro hi2 (And.intro hk2 (And.intro htl (And.intro hbn hst2)))))
                  clear hg2 hi2 hk2 htl hbn hst2 hcL hx hbw
                  go_wp2_with fail
                  obtain ⟨V, hV⟩ : ∃ V, wr.alloc (.cells #[.int .i64 (x.f : Int), .int .i64 (x.t : Int), .int .i64 (x.n : Int)] 73) = V := ⟨_, rfl⟩
                  have hvg : V.heap[wr.heap.size]? = some (.cells #[.int .i64 (x.f : Int), .int .i64 (x.t : Int), .int .i64 (x.n : Int)] 73) := by rw [← hV]; exact heap_alloc_new _ _
                  have hvs : wr.heap.size < V.heap.size := by rw [← hV]; simp
                  have HVB : Hid (Below wr.heap.size wr V) := by rw [← hV]; exact (Below.refl _ _).alloc (Nat.le_refl _) _
                  have HC : Hid (∀ X, Below V.heap.size V X → X.cell? ⟨wr.heap.size, 0, none⟩ = some (.int .i64 (x.f : Int)) ∧ X.cell? ⟨wr.heap.size, 1, none⟩ = some (.int .i64 (x.t : Int)) ∧ X.cell? ⟨wr.heap.size, 2, none⟩ = some (.int .i64 (x.n : Int))) := fun X hX => by
                    have := (hX.block _ hvs).trans hvg
                    refine ⟨?_, ?_, ?_⟩ <;> simp [World.cell?, this]
                  rw [hV]
                  clear hV hvg f0 f1 f2
                  refine (refBlank_any b off n c zs x V HL.out.1 hnc (by omega) (HR.out.below (below_step (below_step HB0.out HK.out.2.2.2.2.2) HVB.out)) r1 r2 g2 HX.out.1).mono ?_
                  rintro e W2 ⟨rfl, hb2'⟩
                  obtain ⟨k0, k1, k3⟩ := HC.out W2 hb2'
                  have HB2 := Lib.hid (below_step HVB.out hb2')
                  have HB2V := Lib.hid hb2'
                  clear hb2'
                  cases g2 with
                  | true =>
                    have hil : i2 = x.t - x.f := hbl2 rfl
                    have HIL := Lib.hid hil
                    have hbelong : first + nfill zs (ls.drop first) = p + (nfill zs (ls.drop (p + 1)) + 1) := by
                      rw [HK.out.2.2.2.2.1, HX.out.2.2.2.2.2]; simp [blg, HX.out.1]
                    have HBEL := Lib.hid hbelong
                    clear hbelong hil
                    by_cases hbad : 1 < x.t - x.f
                    · have dcol : (((1 : Nat)) : Int) < (x.t : Int) - (x.f : Int) := by omega
                      have dcol2 := dcol
                      push_cast at dcol2
                      have hnone := HX.out.2.2.2.2.1 (first + nfill zs (ls.drop first)) (by rw [HBEL.out]; omega) (by rw [HL.out.2]; exact hlt2) (by simp [badF, HX.out.1, HX.out.2.1, HIL.out, hbad])
                      have HNO := Lib.hid hnone
                      clear hnone
                      go_wp2_with fail
                      refine bodyPost_ret (v := .tuple #[.slice none 0 0, .int .i64 0, .bool false]) (by simp [results, Try.results26, go_sem]) rfl ?_
                      rw [HE.out]
                      simp only []
                      rw [HNO.out]
                      exact ⟨none, 0, 0, [], OwnT.nil w W2 (below_step (below_step HB0.out HK.out.2.2.2.2.2) HB2.out), by simp, rfl, rfl, rfl, rfl, rfl⟩
                    · have dcol : ¬ (((1 : Nat)) : Int) < (x.t : Int) - (x.f : Int) := by omega
                      have dcol2 := dcol
                      push_cast at dcol2
                      have dcol3 : decide ((((1 : Nat)) : Int) < (x.t : Int) - (x.f : Int)) = false := decide_eq_false dcol
                      push_cast at dcol3
                      obtain ⟨A5, cap5, W5, hrun5, hown5⟩ := append_txt (HK.out.1.below HB2.out) [⟨#[]⟩] 1 rfl #[.string ⟨#[]⟩] rfl (by omega) W2.heap.size rfl (q + 1) rfl (l ++ [⟨#[]⟩]) rfl
                      have HRUN := Lib.hid hrun5
                      have HOWN := Lib.hid hown5
                      have HW5 : Hid (Below W0.heap.size W0 W5) := HOWN.out.2.2.1
                      clear hrun5 hown5
                      go_wp2_with (at_builtin; refine wpList_append_known rfl _ (.tmp 97) 22 rfl _ _ _ _ rfl rfl HRUN.out ?_)
                      go_roundw
                      case rel =>
                        refine ⟨p + 1, q + 1, cap5, A5, l ++ [⟨#[]⟩], by omega, by omega, by omega, rfl, by go_num, HOWN.out, ?_, ?_, ?_, ?_, HW5.out⟩
                        · rw [HX.out.2.2.2.1, List.map_append, List.map_append, HK.out.2.1]
                          congr 1
                          simp [rowF, HX.out.1, byt]
                        · rw [HX.out.2.2.2.1, List.any_append, HK.out.2.2.1]
                          simp [badF, HX.out.1, HX.out.2.1, HIL.out]; omega
                        · intro s hs
                          rcases List.mem_append.1 hs with h' | h'
                          · exact HK.out.2.2.2.1 s h'
                          · simp at h'; subst h'; decide
                        · rw [HBEL.out]; omega
                      case measure => simp [intOf]; omega
                  | false =>
                    have hnx : first + nfill zs (ls.drop first) = p := by
                      rw [HK.out.2.2.2.2.1, HX.out.2.2.2.2.2]; simp [HX.out.1]
                    have HNX := Lib.hid hnx
                    clear hnx
                    go_wp2_with fail
                    refine bodyPost_ret (v := .tuple #[.slice A q cap, .int .i64 (p : Int), .bool true]) (by simp [results, Try.results26, go_sem]) rfl ?_
                    rw [HE.out]
                    simp only []
                    rw [HNX.out, body_some zs ls first _ p HK.out.2.2.1]
                    exact ⟨A, q, cap, l, (HK.out.1.below HB2.out).wider HB0.out, HK.out.2.2.2.1, rfl, HK.out.2.1⟩
                · obtain rfl : p = m := by omega
                  have dp : decide (p < p) = false := decide_eq_false (by omega)
                  have hnx : first + nfill zs (ls.drop first) = p := by
                    rw [HK.out.2.2.2.2.1, List.drop_eq_nil_of_le (by rw [HL.out.2]; omega)]; simp [nfill, nblg]
                  have HNX := Lib.hid hnx
                  clear hnx
                  go_wp2_with fail
                  refine bodyPost_ret (v := .tuple #[.slice A q cap, .int .i64 (p : Int), .bool true]) (by simp [results, Try.results26, go_sem]) rfl ?_
                  rw [HE.out]
                  simp only []
                  rw [HNX.out, body_some zs ls first _ p HK.out.2.2.1]
                  exact ⟨A, q, cap, l, HK.out.1.wider HB0.out, HK.out.2.2.2.1, rfl, HK.out.2.1⟩
            | false =>
              have he := HEX.out.1 (by rw [HX.out.2.2, hipd]; rfl)
              have HE := Lib.hid he
              clear he
              go_wp2_with fail
              refine (refIndent_any b off n c zs x W4 HL.out.1 hnc (by omega) (HR.out.below (below_step HB0.out HB4.out)) v0 v1 iw HX.out.1).mono ?_
              rintro e W5 ⟨rfl, hb5⟩
              clear HBQ
              have HBQ := Lib.hid (below_step HB4.out hb5)
              clear hb5 k0 k1 k2 HX HEX
              go_wp2_with fail
              go_loopw [16, 17] (fun v i W => ∃ (p q cap : Nat) (A : Option Addr) (l : List ByteArray), first ≤ p ∧ p ≤ m ∧ q ≤ p ∧ v = .slice A q cap ∧ i = .int .i64 (p : Int) ∧
                  Hid (OwnT W0 W A q cap l ∧ l.map byt = ((ls.drop first).take (p - first)).map (rowF zs (iw)) ∧ ((ls.drop first).take (p - first)).any (badF zs (iw)) = false ∧ (∀ s ∈ l, s.size ≤ 1000000) ∧ first + nblg zs iw (ls.drop first) = p + nblg zs iw (ls.drop p) ∧ Below W0.heap.size W0 W)) (fun _ i _ => m - (intOf i).toNat)
              case atStart => exact ⟨first, 0, 0, none, [], by omega, by omega, by omega, rfl, rfl, OwnT.nil W0 _ HBQ.out, by simp, by simp, by simp, rfl, HBQ.out⟩
              case round =>
                obtain ⟨p, q, cap, A, l, hp, hpm, hqp, rfl, rfl, HK⟩ := hrel
                by_cases hlt2 : p < m
                · have hst2 := nblg_step zs iw ls p (by rw [HL.out.2]; exact hlt2)
                  have hbw := below_step HB0.out HK.out.2.2.2.2.2
                  obtain ⟨bL, offL, hBLX, hbL, hcL⟩ := (HRL.out.below hbw).addr (by rw [HL.out.2]; omega)
                  first | subst hBLX | (injection hBLX with hBLX; injection hBLX with hq1 hq2; subst hq1 hq2)
                  obtain ⟨f0, f1, f2⟩ := hcL p (by rw [HL.out.2]; exact hlt2)
                  obtain ⟨r1, r2⟩ := HV.out p (by rw [HL.out.2]; exact hlt2)
                  have htl := take_ln ls first p hp (by rw [HL.out.2]; exact hlt2)
                  have hbn := fun nx => body_none zs ls first (iw) nx p hp
                  have dp : (p : Int) < (m : Int) := by omega
                  obtain ⟨g2, hg2⟩ : ∃ g, blkF zs (lnAt ls p) = g := ⟨_, rfl⟩
                  obtain ⟨i2, hi2⟩ : ∃ iw, indF zs (lnAt ls p) = iw := ⟨_, rfl⟩
                  obtain ⟨k2, hk2⟩ : ∃ mk, dmk zs (lnAt ls p) = mk := ⟨_, rfl⟩
                  have hib2 := indF_le zs (lnAt ls p) r1
                  rw [hi2] at hib2
                  have hbl2 := blk_len zs (lnAt ls p) r1
                  rw [hg2, hi2] at hbl2
                  obtain ⟨x, hx⟩ : ∃ x, lnAt ls p = x := ⟨_, rfl⟩
                  rw [hx] at f0 f1 f2 r1 r2 htl hbn hg2 hi2 hk2 hib2 hbl2 hst2
                  have HX := Lib.hid (And.intro hg2 (And.intro hi2 (And.intro hk2 (And.intro htl (And.intro hbn hst2)))))
                  clear hg2 hi2 hk2 htl hbn hst2 hcL hx hbw
                  go_wp2_with fail
                  obtain ⟨V, hV⟩ : ∃ V, wr.alloc (.cells #[.int .i64 (x.f : Int), .int .i64 (x.t : Int), .int .i64 (x.n : Int)] 73) = V := ⟨_, rfl⟩
                  have hvg : V.heap[wr.heap.size]? = some (.cells #[.int .i64 (x.f : Int), .int .i64 (x.t : Int), .int .i64 (x.n : Int)] 73) := by rw [← hV]; exact heap_alloc_new _ _
                  have hvs : wr.heap.size < V.heap.size := by rw [← hV]; simp
                  have HVB : Hid (Below wr.heap.size wr V) := by rw [← hV]; exact (Below.refl _ _).alloc (Nat.le_refl _) _
                  have HC : Hid (∀ X, Below V.heap.size V X → X.cell? ⟨wr.heap.size, 0, none⟩ = some (.int .i64 (x.f : Int)) ∧ X.cell? ⟨wr.heap.size, 1, none⟩ = some (.int .i64 (x.t : Int)) ∧ X.cell? ⟨wr.heap.size, 2, none⟩ = some (.int .i64 (x.n : Int))) := fun X hX => by
                    have := (hX.block _ hvs).trans hvg
                    refine ⟨?_, ?_, ?_⟩ <;> simp [World.cell?, this]
                  rw [hV]
                  clear hV hvg f0 f1 f2
                  refine (refBlank_any b off n c zs x V HL.out.1 hnc (by omega) (HR.out.below (below_step (below_step HB0.out HK.out.2.2.2.2.2) HVB.out)) r1 r2 g2 HX.out.1).mono ?_
                  rintro e W2 ⟨rfl, hb2'⟩
                  obtain ⟨k0, k1, k3⟩ := HC.out W2 hb2'
                  have HB2 := Lib.hid (below_step HVB.out hb2')
                  have HB2V := Lib.hid hb2'
                  clear hb2'
                  cases g2 with
                  | true =>
                    have hil : i2 = x.t - x.f := hbl2 rfl
                    have HIL := Lib.hid hil
                    have hbelong : first + nblg zs iw (ls.drop first) = p + (nblg zs iw (ls.drop (p + 1)) + 1) := by
                      rw [HK.out.2.2.2.2.1, HX.out.2.2.2.2.2]; simp [blg, HX.out.1]
                    have HBEL := Lib.hid hbelong
                    clear hbelong hil
                    by_cases hbad : iw < x.t - x.f
                    · have dcol : (((iw : Nat)) : Int) < (x.t : Int) - (x.f : Int) := by omega
                      have dcol2 := dcol
                      push_cast at dcol2
                      have hnone := HX.out.2.2.2.2.1 (first + nblg zs iw (ls.drop first)) (by rw [HBEL.out]; omega) (by rw [HL.out.2]; exact hlt2) (by simp [badF, HX.out.1, HX.out.2.1, HIL.out, hbad])
                      have HNO := Lib.hid hnone
                      clear hnone
                      go_wp2_with fail
                      refine bodyPost_ret (v := .tuple #[.slice none 0 0, .int .i64 0, .bool false]) (by simp [results, Try.results26, go_sem]) rfl ?_
                      rw [HE.out]
                      simp only []
                      rw [HNO.out]
                      exact ⟨none, 0, 0, [], OwnT.nil w W2 (below_step (below_step HB0.out HK.out.2.2.2.2.2) HB2.out), by simp, rfl, rfl, rfl, rfl, rfl⟩
                    · have dcol : ¬ (((iw : Nat)) : Int) < (x.t : Int) - (x.f : Int) := by omega
                      have dcol2 := dcol
                      push_cast at dcol2
                      have dcol3 : decide ((((iw : Nat)) : Int) < (x.t : Int) - (x.f : Int)) = false := decide_eq_false dcol
                      push_cast at dcol3
                      obtain ⟨A5, cap5, W5, hrun5, hown5⟩ := append_txt (HK.out.1.below HB2.out) [⟨#[]⟩] 1 rfl #[.string ⟨#[]⟩] rfl (by omega) W2.heap.size rfl (q + 1) rfl (l ++ [⟨#[]⟩]) rfl
                      have HRUN := Lib.hid hrun5
                      have HOWN := Lib.hid hown5
                      have HW5 : Hid (Below W0.heap.size W0 W5) := HOWN.out.2.2.1
                      clear hrun5 hown5
                      go_wp2_with (at_builtin; refine wpList_append_known rfl _ (.tmp 97) 22 rfl _ _ _ _ rfl rfl HRUN.out ?_)
                      go_roundw
                      case rel =>
                        refine ⟨p + 1, q + 1, cap5, A5, l ++ [⟨#[]⟩], by omega, by omega, by omega, rfl, by go_num, HOWN.out, ?_, ?_, ?_, ?_, HW5.out⟩
                        · rw [HX.out.2.2.2.1, List.map_append, List.map_append, HK.out.2.1]
                          congr 1
                          simp [rowF, HX.out.1, byt]
                        · rw [HX.out.2.2.2.1, List.any_append, HK.out.2.2.1]
                          simp [badF, HX.out.1, HX.out.2.1, HIL.out]; omega
                        · intro s hs
                          rcases List.mem_append.1 hs with h' | h'
                          · exact HK.out.2.2.2.1 s h'
                          · simp at h'; subst h'; decide
                        · rw [HBEL.out]; omega
                      case measure => simp [intOf]; omega
                  | false =>
                    go_wp2_with fail
                    refine (refIndent_any b off n c zs x W2 HL.out.1 hnc (by omega) (HR.out.below (below_step (below_step HB0.out HK.out.2.2.2.2.2) HB2.out)) r1 r2 i2 HX.out.2.1).mono ?_
                    rintro e W3 ⟨rfl, hb3⟩
                    obtain ⟨e0, e1, e2⟩ := HC.out W3 (below_step HB2V.out hb3)
                    have HB3 := Lib.hid (below_step HB2.out hb3)
                    have HB3V := Lib.hid (below_step HB2V.out hb3)
                    clear hb3 k0 k1 k3
                    by_cases hic : i2 < iw
                    · have dic : (i2 : Int) < (iw : Int) := by omega
                      have WHYC : Hid (¬ iw ≤ i2) := by show ¬ _; omega
                      have hnx : first + nblg zs iw (ls.drop first) = p := by
                        rw [HK.out.2.2.2.2.1, HX.out.2.2.2.2.2]; simp [blg, HX.out.1, HX.out.2.1, WHYC.out]
                      have HNX := Lib.hid hnx
                      clear hnx
                      go_wp2_with fail
                      refine bodyPost_ret (v := .tuple #[.slice A q cap, .int .i64 (p : Int), .bool true]) (by simp [results, Try.results26, go_sem]) rfl ?_
                      rw [HE.out]
                      simp only []
                      rw [HNX.out, body_some zs ls first _ p HK.out.2.2.1]
                      exact ⟨A, q, cap, l, (HK.out.1.below HB3.out).wider HB0.out, HK.out.2.2.2.1, rfl, HK.out.2.1⟩
                    · have dic : decide (i2 < iw) = false := decide_eq_false hic
                      have dic' : ¬ i2 < iw := hic
                      go_wp2_with fail
                      refine (refStop_any b off n c zs x W3 HL.out.1 hnc hm (by omega) HB.out (HR.out.below (below_step (below_step HB0.out HK.out.2.2.2.2.2) HB3.out)) r1 r2 k2 HX.out.2.2.1).mono ?_
                      rintro e W4 ⟨rfl, hb4⟩
                      obtain ⟨g0, g1, g3⟩ := HC.out W4 (below_step HB3V.out hb4)
                      have HB4 := Lib.hid (below_step HB3.out hb4)
                      clear hb4 e0 e1 e2
                      cases k2 with
                      | true =>
                        have hnx : first + nblg zs iw (ls.drop first) = p := by
                          rw [HK.out.2.2.2.2.1, HX.out.2.2.2.2.2]; simp [blg, HX.out.1, HX.out.2.2.1]
                        have HNX := Lib.hid hnx
                        clear hnx
                        go_wp2_with fail
                        refine bodyPost_ret (v := .tuple #[.slice A q cap, .int .i64 (p : Int), .bool true]) (by simp [results, Try.results26, go_sem]) rfl ?_
                        rw [HE.out]
                        simp only []
                        rw [HNX.out, body_some zs ls first _ p HK.out.2.2.1]
                        exact ⟨A, q, cap, l, (HK.out.1.below HB4.out).wider HB0.out, HK.out.2.2.2.1, rfl, HK.out.2.1⟩
                      | false =>
                        have hbelong : first + nblg zs iw (ls.drop first) = p + (nblg zs iw (ls.drop (p + 1)) + 1) := by
                          rw [HK.out.2.2.2.2.1, HX.out.2.2.2.2.2]
                          have : iw ≤ i2 := by omega
                          simp [blg, HX.out.1, HX.out.2.1, HX.out.2.2.1, this]
                        have HBEL := Lib.hid hbelong
                        clear hbelong
                        have hcl := cont_drop zs x (iw) (by omega)
                        have hcb : Byte ((cont zs x).drop (iw)) := ((HB.out.drop _).take _).drop _
                        obtain ⟨A4, hs4, hA4, hr4⟩ := slice_lh (some ⟨b, off, none⟩) n c (x.f + iw) x.t zs HL.out.1 hnc (fun h => by cases h) (by omega) r2
                        rw [hcl] at hr4
                        have hs4' : ∀ W, (Instr.slice 24 (.slice (some ⟨b, off, none⟩) n c) (some (.int .i64 ((x.f : Int) + (iw : Int)))) (some (.int .i64 (x.t : Int))) none).run Try.prog W = .ok (.slice A4 (x.t - (x.f + iw)) (c - (x.f + iw))) W := fun W => hs4 W
                        have hlen : ((cont zs x).drop (iw)).length = x.t - (x.f + iw) := by rw [← hcl, List.length_take, List.length_drop, HL.out.1]; omega
                        have hcv := run_string_rd W4 A4 (x.t - (x.f + iw)) (c - (x.f + iw)) ((cont zs x).drop (iw)) hlen (hr4 W4 (HR.out.below (below_step (below_step HB0.out HK.out.2.2.2.2.2) HB4.out)))
                        have hby := byt_strOfNums ((cont zs x).drop (iw)) hcb
                        generalize strOfNums ((cont zs x).drop (iw)) = r at *
                        have hrs' : r.size ≤ 100000 := by rw [← byt_len, hby, hlen]; omega
                        obtain ⟨A5, cap5, W5, hrun5, hown5⟩ := append_txt (HK.out.1.below HB4.out) [r] 1 rfl #[.string r] rfl (by omega) W4.heap.size rfl (q + 1) rfl (l ++ [r]) rfl
                        have HBY := Lib.hid hby
                        have HRUN := Lib.hid hrun5
                        have HOWN := Lib.hid hown5
                        have HW5 : Hid (Below W0.heap.size W0 W5) := HOWN.out.2.2.1
                        clear hcl hcb hs4 hA4 hr4 hlen hby hrun5 hown5
                        go_wp2_with (at_builtin; refine wpList_append_known rfl _ (.tmp 122) 22 rfl _ _ _ _ rfl rfl HRUN.out ?_)
                        go_roundw
                        case rel =>
                          refine ⟨p + 1, q + 1, cap5, A5, l ++ [r], by omega, by omega, by omega, rfl, by go_num, HOWN.out, ?_, ?_, ?_, ?_, HW5.out⟩
                          · rw [HX.out.2.2.2.1, List.map_append, List.map_append, HK.out.2.1]
                            congr 1
                            simp [rowF, HX.out.1, HBY.out]
                          · rw [HX.out.2.2.2.1, List.any_append, HK.out.2.2.1]
                            simp [badF, HX.out.1]
                          · intro s hs
                            rcases List.mem_append.1 hs with h' | h'
                            · exact HK.out.2.2.2.1 s h'
                            · simp at h'; subst h'; omega
                          · rw [HBEL.out]; omega
                        case measure => simp [intOf]; omega
                · obtain rfl : p = m := by omega
                  have dp : decide (p < p) = false := decide_eq_false (by omega)
                  have hnx : first + nblg zs iw (ls.drop first) = p := by
                    rw [HK.out.2.2.2.2.1, List.drop_eq_nil_of_le (by rw [HL.out.2]; omega)]; simp [nfill, nblg]
                  have HNX := Lib.hid hnx
                  clear hnx
                  go_wp2_with fail
                  refine bodyPost_ret (v := .tuple #[.slice A q cap, .int .i64 (p : Int), .bool true]) (by simp [results, Try.results26, go_sem]) rfl ?_
                  rw [HE.out]
                  simp only []
                  rw [HNX.out, body_some zs ls first _ p HK.out.2.2.1]
                  exact ⟨A, q, cap, l, HK.out.1.wider HB0.out, HK.out.2.2.2.1, rfl, HK.out.2.1⟩
    · obtain rfl : j = m := by omega
      have dj : decide (j < j) = false := decide_eq_false (by omega)
      have HJ : Hid (first + nfill zs (ls.drop first) = j) := by
        show _ = _
        rw [HK.out.1, List.drop_eq_nil_of_le (by rw [HL.out.2]; omega)]; rfl
      have HBQ := Lib.hid HK.out.2
      clear HK
      obtain ⟨WQ, hWQ⟩ : ∃ x, x = wr := ⟨_, rfl⟩
      subst hWQ
      by_cases hd0 : 0 < dg
      · have dd0 : ((dg : Int) == 0) = false := beq_eq_false_iff_ne.2 (by omega)
        have dd1 : ¬ dg = 0 := by omega
        obtain ⟨col, hcol⟩ : ∃ col, 0 + dg = col := ⟨_, rfl⟩
        have he := rx_dg zs ls first (-1) dg col hd0 (by omega)
        have HE := Lib.hid he
        have hcb : col ≤ 200000 := by omega
        have hci : max (-1) (0 : Int) + (dg : Int) = (col : Int) := by omega
        have HCI := Lib.hid hci
        clear he hcol hci
        go_wp2_with fail
        first | rw [HCI.out] | skip
        clear c3
        go_loopw [16, 17] (fun v i W => ∃ (p q cap : Nat) (A : Option Addr) (l : List ByteArray), first ≤ p ∧ p ≤ j ∧ q ≤ p ∧ v = .slice A q cap ∧ i = .int .i64 (p : Int) ∧
            Hid (OwnT W0 W A q cap l ∧ l.map byt = ((ls.drop first).take (p - first)).map (rowF zs (col)) ∧ ((ls.drop first).take (p - first)).any (badF zs (col)) = false ∧ (∀ s ∈ l, s.size ≤ 1000000) ∧ first + nblg zs col (ls.drop first) = p + nblg zs col (ls.drop p) ∧ Below W0.heap.size W0 W)) (fun _ i _ => j - (intOf i).toNat)
        case atStart => exact ⟨first, 0, 0, none, [], by omega, by omega, by omega, rfl, rfl, OwnT.nil W0 _ HBQ.out, by simp, by simp, by simp, rfl, HBQ.out⟩
        case round =>
          obtain ⟨p, q, cap, A, l, hp, hpm, hqp, rfl, rfl, HK⟩ := hrel
          by_cases hlt2 : p < j
          · have hst2 := nblg_step zs col ls p (by rw [HL.out.2]; exact hlt2)
            have hbw := below_step HB0.out HK.out.2.2.2.2.2
            obtain ⟨bL, offL, hBLX, hbL, hcL⟩ := (HRL.out.below hbw).addr (by rw [HL.out.2]; omega)
            first | subst hBLX | (injection hBLX with hBLX; injection hBLX with hq1 hq2; subst hq1 hq2)
            obtain ⟨f0, f1, f2⟩ := hcL p (by rw [HL.out.2]; exact hlt2)
            obtain ⟨r1, r2⟩ := HV.out p (by rw [HL.out.2]; exact hlt2)
            have htl := take_ln ls first p hp (by rw [HL.out.2]; exact hlt2)
            have hbn := fun nx => body_none zs ls first (col) nx p hp
            have dp : (p : Int) < (j : Int) := by omega
            obtain ⟨g2, hg2⟩ : ∃ g, blkF zs (lnAt ls p) = g := ⟨_, rfl⟩
            obtain ⟨i2, hi2⟩ : ∃ iw, indF zs (lnAt ls p) = iw := ⟨_, rfl⟩
            obtain ⟨k2, hk2⟩ : ∃ mk, dmk zs (lnAt ls p) = mk := ⟨_, rfl⟩
            have hib2 := indF_le zs (lnAt ls p) r1
            rw [hi2] at hib2
            have hbl2 := blk_len zs (lnAt ls p) r1
            rw [hg2, hi2] at hbl2
            obtain ⟨x, hx⟩ : ∃ x, lnAt ls p = x := ⟨_, rfl⟩
            rw [hx] at f0 f1 f2 r1 r2 htl hbn hg2 hi2 hk2 hib2 hbl2 hst2
            have HX := Lib.hid (And.intro hg2 (And.intro hi2 (And.intro hk2 (And.intro htl (And.intro hbn hst2)))))
            clear hg2 hi2 hk2 htl hbn hst2 hcL hx hbw
            go_wp2_with fail
            obtain ⟨V, hV⟩ : ∃ V, wr.alloc (.cells #[.int .i64 (x.f : Int), .int .i64 (x.t : Int), .int .i64 (x.n : Int)] 73) = V := ⟨_, rfl⟩
            have hvg : V.heap[wr.heap.size]? = some (.cells #[.int .i64 (x.f : Int), .int .i64 (x.t : Int), .int .i64 (x.n : Int)] 73) := by rw [← hV]; exact heap_alloc_new _ _
            have hvs : wr.heap.size < V.heap.size := by rw [← hV]; simp
            have HVB : Hid (Below wr.heap.size wr V) := by rw [← hV]; exact (Below.refl _ _).alloc (Nat.le_refl _) _
            have HC : Hid (∀ X, Below V.heap.size V X → X.cell? ⟨wr.heap.size, 0, none⟩ = some (.int .i64 (x.f : Int)) ∧ X.cell? ⟨wr.heap.size, 1, none⟩ = some (.int .i64 (x.t : Int)) ∧ X.cell? ⟨wr.heap.size, 2, none⟩ = some (.int .i64 (x.n : Int))) := fun X hX => by
              have := (hX.block _ hvs).trans hvg
              refine ⟨?_, ?_, ?_⟩ <;> simp [World.cell?, this]
            rw [hV]
            clear hV hvg f0 f1 f2
            refine (refBlank_any b off n c zs x V HL.out.1 hnc (by omega) (HR.out.below (below_step (below_step HB0.out HK.out.2.2.2.2.2) HVB.out)) r1 r2 g2 HX.out.1).mono ?_
            rintro e W2 ⟨rfl, hb2'⟩
            obtain ⟨k0, k1, k3⟩ := HC.out W2 hb2'
            have HB2 := Lib.hid (below_step HVB.out hb2')
            have HB2V := Lib.hid hb2'
            clear hb2'
            cases g2 with
            | true =>
              have hil : i2 = x.t - x.f := hbl2 rfl
              have HIL := Lib.hid hil
              have hbelong : first + nblg zs col (ls.drop first) = p + (nblg zs col (ls.drop (p + 1)) + 1) := by
                rw [HK.out.2.2.2.2.1, HX.out.2.2.2.2.2]; simp [blg, HX.out.1]
              have HBEL := Lib.hid hbelong
              clear hbelong hil
              by_cases hbad : col < x.t - x.f
              · have dcol : (((col : Nat)) : Int) < (x.t : Int) - (x.f : Int) := by omega
                have dcol2 := dcol
                push_cast at dcol2
                have hnone := HX.out.2.2.2.2.1 (first + nblg zs col (ls.drop first)) (by rw [HBEL.out]; omega) (by rw [HL.out.2]; exact hlt2) (by simp [badF, HX.out.1, HX.out.2.1, HIL.out, hbad])
                have HNO := Lib.hid hnone
                clear hnone
                go_wp2_with fail
                refine bodyPost_ret (v := .tuple #[.slice none 0 0, .int .i64 0, .bool false]) (by simp [results, Try.results26, go_sem]) rfl ?_
                rw [HE.out]
                simp only []
                rw [HNO.out]
                exact ⟨none, 0, 0, [], OwnT.nil w W2 (below_step (below_step HB0.out HK.out.2.2.2.2.2) HB2.out), by simp, rfl, rfl, rfl, rfl, rfl⟩
              · have dcol : ¬ (((col : Nat)) : Int) < (x.t : Int) - (x.f : Int) := by omega
                have dcol2 := dcol
                push_cast at dcol2
                have dcol3 : decide ((((col : Nat)) : Int) < (x.t : Int) - (x.f : Int)) = false := decide_eq_false dcol
                push_cast at dcol3
                obtain ⟨A5, cap5, W5, hrun5, hown5⟩ := append_txt (HK.out.1.below HB2.out) [⟨#[]⟩] 1 rfl #[.string ⟨#[]⟩] rfl (by omega) W2.heap.size rfl (q + 1) rfl (l ++ [⟨#[]⟩]) rfl
                have HRUN := Lib.hid hrun5
                have HOWN := Lib.hid hown5
                have HW5 : Hid (Below W0.heap.size W0 W5) := HOWN.out.2.2.1
                clear hrun5 hown5
                go_wp2_with (at_builtin; refine wpList_append_known rfl _ (.tmp 97) 22 rfl _ _ _ _ rfl rfl HRUN.out ?_)
                go_roundw
                case rel =>
                  refine ⟨p + 1, q + 1, cap5, A5, l ++ [⟨#[]⟩], by omega, by omega, by omega, rfl, by go_num, HOWN.out, ?_, ?_, ?_, ?_, HW5.out⟩
                  · rw [HX.out.2.2.2.1, List.map_append, List.map_append, HK.out.2.1]
                    congr 1
                    simp [rowF, HX.out.1, byt]
                  · rw [HX.out.2.2.2.1, List.any_append, HK.out.2.2.1]
                    simp [badF, HX.out.1, HX.out.2.1, HIL.out]; omega
                  · intro s hs
                    rcases List.mem_append.1 hs with h' | h'
                    · exact HK.out.2.2.2.1 s h'
                    · simp at h'; subst h'; decide
                  · rw [HBEL.out]; omega
                case measure => simp [intOf]; omega
            | false =>
              go_wp2_with fail
              refine (refIndent_any b off n c zs x W2 HL.out.1 hnc (by omega) (HR.out.below (below_step (below_step HB0.out HK.out.2.2.2.2.2) HB2.out)) r1 r2 i2 HX.out.2.1).mono ?_
              rintro e W3 ⟨rfl, hb3⟩
              obtain ⟨e0, e1, e2⟩ := HC.out W3 (below_step HB2V.out hb3)
              have HB3 := Lib.hid (below_step HB2.out hb3)
              have HB3V := Lib.hid (below_step HB2V.out hb3)
              clear hb3 k0 k1 k3
              by_cases hic : i2 < col
              · have dic : (i2 : Int) < (col : Int) := by omega
                have WHYC : Hid (¬ col ≤ i2) := by show ¬ _; omega
                have hnx : first + nblg zs col (ls.drop first) = p := by
                  rw [HK.out.2.2.2.2.1, HX.out.2.2.2.2.2]; simp [blg, HX.out.1, HX.out.2.1, WHYC.out]
                have HNX := Lib.hid hnx
                clear hnx
                go_wp2_with fail
                refine bodyPost_ret (v := .tuple #[.slice A q cap, .int .i64 (p : Int), .bool true]) (by simp [results, Try.results26, go_sem]) rfl ?_
                rw [HE.out]
                simp only []
                rw [HNX.out, body_some zs ls first _ p HK.out.2.2.1]
                exact ⟨A, q, cap, l, (HK.out.1.below HB3.out).wider HB0.out, HK.out.2.2.2.1, rfl, HK.out.2.1⟩
              · have dic : decide (i2 < col) = false := decide_eq_false hic
                have dic' : ¬ i2 < col := hic
                go_wp2_with fail
                refine (refStop_any b off n c zs x W3 HL.out.1 hnc hm (by omega) HB.out (HR.out.below (below_step (below_step HB0.out HK.out.2.2.2.2.2) HB3.out)) r1 r2 k2 HX.out.2.2.1).mono ?_
                rintro e W4 ⟨rfl, hb4⟩
                obtain ⟨g0, g1, g3⟩ := HC.out W4 (below_step HB3V.out hb4)
                have HB4 := Lib.hid (below_step HB3.out hb4)
                clear hb4 e0 e1 e2
                cases k2 with
                | true =>
                  have hnx : first + nblg zs col (ls.drop first) = p := by
                    rw [HK.out.2.2.2.2.1, HX.out.2.2.2.2.2]; simp [blg, HX.out.1, HX.out.2.2.1]
                  have HNX := Lib.hid hnx
                  clear hnx
                  go_wp2_with fail
                  refine bodyPost_ret (v := .tuple #[.slice A q cap, .int .i64 (p : Int), .bool true]) (by simp [results, Try.results26, go_sem]) rfl ?_
                  rw [HE.out]
                  simp only []
                  rw [HNX.out, body_some zs ls first _ p HK.out.2.2.1]
                  exact ⟨A, q, cap, l, (HK.out.1.below HB4.out).wider HB0.out, HK.out.2.2.2.1, rfl, HK.out.2.1⟩
                | false =>
                  have hbelong : first + nblg zs col (ls.drop first) = p + (nblg zs col (ls.drop (p + 1)) + 1) := by
                    rw [HK.out.2.2.2.2.1, HX.out.2.2.2.2.2]
                    have : col ≤ i2 := by omega
                    simp [blg, HX.out.1, HX.out.2.1, HX.out.2.2.1, this]
                  have HBEL := Lib.hid hbelong
                  clear hbelong
                  have hcl := cont_drop zs x (col) (by omega)
                  have hcb : Byte ((cont zs x).drop (col)) := ((HB.out.drop _).take _).drop _
                  obtain ⟨A4, hs4, hA4, hr4⟩ := slice_lh (some ⟨b, off, none⟩) n c (x.f + col) x.t zs HL.out.1 hnc (fun h => by cases h) (by omega) r2
                  rw [hcl] at hr4
                  have hs4' : ∀ W, (Instr.slice 24 (.slice (some ⟨b, off, none⟩) n c) (some (.int .i64 ((x.f : Int) + (col : Int)))) (some (.int .i64 (x.t : Int))) none).run Try.prog W = .ok (.slice A4 (x.t - (x.f + col)) (c - (x.f + col))) W := fun W => hs4 W
                  have hlen : ((cont zs x).drop (col)).length = x.t - (x.f + col) := by rw [← hcl, List.length_take, List.length_drop, HL.out.1]; omega
                  have hcv := run_string_rd W4 A4 (x.t - (x.f + col)) (c - (x.f + col)) ((cont zs x).drop (col)) hlen (hr4 W4 (HR.out.below (below_step (below_step HB0.out HK.out.2.2.2.2.2) HB4.out)))
                  have hby := byt_strOfNums ((cont zs x).drop (col)) hcb
                  generalize strOfNums ((cont zs x).drop (col)) = r at *
                  have hrs' : r.size ≤ 100000 := by rw [← byt_len, hby, hlen]; omega
                  obtain ⟨A5, cap5, W5, hrun5, hown5⟩ := append_txt (HK.out.1.below HB4.out) [r] 1 rfl #[.string r] rfl (by omega) W4.heap.size rfl (q + 1) rfl (l ++ [r]) rfl
                  have HBY := Lib.hid hby
                  have HRUN := Lib.hid hrun5
                  have HOWN := Lib.hid hown5
                  have HW5 : Hid (Below W0.heap.size W0 W5) := HOWN.out.2.2.1
                  clear hcl hcb hs4 hA4 hr4 hlen hby hrun5 hown5
                  go_wp2_with (at_builtin; refine wpList_append_known rfl _ (.tmp 122) 22 rfl _ _ _ _ rfl rfl HRUN.out ?_)
                  go_roundw
                  case rel =>
                    refine ⟨p + 1, q + 1, cap5, A5, l ++ [r], by omega, by omega, by omega, rfl, by go_num, HOWN.out, ?_, ?_, ?_, ?_, HW5.out⟩
                    · rw [HX.out.2.2.2.1, List.map_append, List.map_append, HK.out.2.1]
                      congr 1
                      simp [rowF, HX.out.1, HBY.out]
                    · rw [HX.out.2.2.2.1, List.any_append, HK.out.2.2.1]
                      simp [badF, HX.out.1]
                    · intro s hs
                      rcases List.mem_append.1 hs with h' | h'
                      · exact HK.out.2.2.2.1 s h'
                      · simp at h'; subst h'; omega
                    · rw [HBEL.out]; omega
                  case measure => simp [intOf]; omega
          · obtain rfl : p = j := by omega
            have dp : decide (p < p) = false := decide_eq_false (by omega)
            have hnx : first + nblg zs col (ls.drop first) = p := by
              rw [HK.out.2.2.2.2.1, List.drop_eq_nil_of_le (by rw [HL.out.2]; omega)]; simp [nfill, nblg]
            have HNX := Lib.hid hnx
            clear hnx
            go_wp2_with fail
            refine bodyPost_ret (v := .tuple #[.slice A q cap, .int .i64 (p : Int), .bool true]) (by simp [results, Try.results26, go_sem]) rfl ?_
            rw [HE.out]
            simp only []
            rw [HNX.out, body_some zs ls first _ p HK.out.2.2.1]
            exact ⟨A, q, cap, l, HK.out.1.wider HB0.out, HK.out.2.2.2.1, rfl, HK.out.2.1⟩
      · have HDG : Hid (dg = 0) := by show dg = 0; omega
        have dd0 : ((dg : Int) == 0) = true := beq_iff_eq.2 (by omega)
        have he : refExt zs ls first (-1) dg = (1, first + nfill zs (ls.drop first)) := by
          rw [HDG.out]; exact rx_only zs ls first (-1) j (0) HJ.out (by omega) (by unfold onlyF; rw [HL.out.2]; simp)
        have HE := Lib.hid he
        clear he
        have deq : decide ((j : Int) ≤ (j : Int)) = true := decide_eq_true (by omega)
        have deq1 : j ≤ j := by omega
        go_wp2_with fail
        clear c3
        go_loopw [16, 17] (fun v i W => ∃ (p q cap : Nat) (A : Option Addr) (l : List ByteArray), first ≤ p ∧ p ≤ j ∧ q ≤ p ∧ v = .slice A q cap ∧ i = .int .i64 (p : Int) ∧
            Hid (OwnT W0 W A q cap l ∧ l.map byt = ((ls.drop first).take (p - first)).map (rowF zs (1)) ∧ ((ls.drop first).take (p - first)).any (badF zs (1)) = false ∧ (∀ s ∈ l, s.size ≤ 1000000) ∧ first + nfill zs (ls.drop first) = p + nfill zs (ls.drop p) ∧ Below W0.heap.size W0 W)) (fun _ i _ => j - (intOf i).toNat)
        case atStart => exact ⟨first, 0, 0, none, [], by omega, by omega, by omega, rfl, rfl, OwnT.nil W0 _ HBQ.out, by simp, by simp, by simp, rfl, HBQ.out⟩
        case round =>
          obtain ⟨p, q, cap, A, l, hp, hpm, hqp, rfl, rfl, HK⟩ := hrel
          by_cases hlt2 : p < j
          · have hst2 := nfill_step zs ls p (by rw [HL.out.2]; exact hlt2)
            have hbw := below_step HB0.out HK.out.2.2.2.2.2
            obtain ⟨bL, offL, hBLX, hbL, hcL⟩ := (HRL.out.below hbw).addr (by rw [HL.out.2]; omega)
            first | subst hBLX | (injection hBLX with hBLX; injection hBLX with hq1 hq2; subst hq1 hq2)
            obtain ⟨f0, f1, f2⟩ := hcL p (by rw [HL.out.2]; exact hlt2)
            obtain ⟨r1, r2⟩ := HV.out p (by rw [HL.out.2]; exact hlt2)
            have htl := take_ln ls first p hp (by rw [HL.out.2]; exact hlt2)
            have hbn := fun nx => body_none zs ls first (1) nx p hp
            have dp : (p : Int) < (j : Int) := by omega
            obtain ⟨g2, hg2⟩ : ∃ g, blkF zs (lnAt ls p) = g := ⟨_, rfl⟩
            obtain ⟨i2, hi2⟩ : ∃ iw, indF zs (lnAt ls p) = iw := ⟨_, rfl⟩
            obtain ⟨k2, hk2⟩ : ∃ mk, dmk zs (lnAt ls p) = mk := ⟨_, rfl⟩
            have hib2 := indF_le zs (lnAt ls p) r1
            rw [hi2] at hib2
            have hbl2 := blk_len zs (lnAt ls p) r1
            rw [hg2, hi2] at hbl2
            obtain ⟨x, hx⟩ : ∃ x, lnAt ls p = x := ⟨_, rfl⟩
            rw [hx] at f0 f1 f2 r1 r2 htl hbn hg2 hi2 hk2 hib2 hbl2 hst2
            have HX := Lib.hid (And.intro hg2 (And.intro hi2 (And.intro hk2 (And.intro htl (And.intro hbn hst2)))))
            clear hg2 hi2 hk2 htl hbn hst2 hcL hx hbw
            go_wp2_with fail
            obtain ⟨V, hV⟩ : ∃ V, wr.alloc (.cells #[.int .i64 (x.f : Int), .int .i64 (x.t : Int), .int .i64 (x.n : Int)] 73) = V := ⟨_, rfl⟩
            have hvg : V.heap[wr.heap.size]? = some (.cells #[.int .i64 (x.f : Int), .int .i64 (x.t : Int), .int .i64 (x.n : Int)] 73) := by rw [← hV]; exact heap_alloc_new _ _
            have hvs : wr.heap.size < V.heap.size := by rw [← hV]; simp
            have HVB : Hid (Below wr.heap.size wr V) := by rw [← hV]; exact (Below.refl _ _).alloc (Nat.le_refl _) _
            have HC : Hid (∀ X, Below V.heap.size V X → X.cell? ⟨wr.heap.size, 0, none⟩ = some (.int .i64 (x.f : Int)) ∧ X.cell? ⟨wr.heap.size, 1, none⟩ = some (.int .i64 (x.t : Int)) ∧ X.cell? ⟨wr.heap.size, 2, none⟩ = some (.int .i64 (x.n : Int))) := fun X hX => by
              have := (hX.block _ hvs).trans hvg
              refine ⟨?_, ?_, ?_⟩ <;> simp [World.cell?, this]
            rw [hV]
            clear hV hvg f0 f1 f2
            refine (refBlank_any b off n c zs x V HL.out.1 hnc (by omega) (HR.out.below (below_step (below_step HB0.out HK.out.2.2.2.2.2) HVB.out)) r1 r2 g2 HX.out.1).mono ?_
            rintro e W2 ⟨rfl, hb2'⟩
            obtain ⟨k0, k1, k3⟩ := HC.out W2 hb2'
            have HB2 := Lib.hid (below_step HVB.out hb2')
            have HB2V := Lib.hid hb2'
            clear hb2'
            cases g2 with
            | true =>
              have hil : i2 = x.t - x.f := hbl2 rfl
              have HIL := Lib.hid hil
              have hbelong : first + nfill zs (ls.drop first) = p + (nfill zs (ls.drop (p + 1)) + 1) := by
                rw [HK.out.2.2.2.2.1, HX.out.2.2.2.2.2]; simp [blg, HX.out.1]
              have HBEL := Lib.hid hbelong
              clear hbelong hil
              by_cases hbad : 1 < x.t - x.f
              · have dcol : (((1 : Nat)) : Int) < (x.t : Int) - (x.f : Int) := by omega
                have dcol2 := dcol
                push_cast at dcol2
                have hnone := HX.out.2.2.2.2.1 (first + nfill zs (ls.drop first)) (by rw [HBEL.out]; omega) (by rw [HL.out.2]; exact hlt2) (by simp [badF, HX.out.1, HX.out.2.1, HIL.out, hbad])
                have HNO := Lib.hid hnone
                clear hnone
                go_wp2_with fail
                refine bodyPost_ret (v := .tuple #[.slice none 0 0, .int .i64 0, .bool false]) (by simp [results, Try.results26, go_sem]) rfl ?_
                rw [HE.out]
                simp only []
                rw [HNO.out]
                exact ⟨none, 0, 0, [], OwnT.nil w W2 (below_step (below_step HB0.out HK.out.2.2.2.2.2) HB2.out), by simp, rfl, rfl, rfl, rfl, rfl⟩
              · have dcol : ¬ (((1 : Nat)) : Int) < (x.t : Int) - (x.f : Int) := by omega
                have dcol2 := dcol
                push_cast at dcol2
                have dcol3 : decide ((((1 : Nat)) : Int) < (x.t : Int) - (x.f : Int)) = false := decide_eq_false dcol
                push_cast at dcol3
                obtain ⟨A5, cap5, W5, hrun5, hown5⟩ := append_txt (HK.out.1.below HB2.out) [⟨#[]⟩] 1 rfl #[.string ⟨#[]⟩] rfl (by omega) W2.heap.size rfl (q + 1) rfl (l ++ [⟨#[]⟩]) rfl
                have HRUN := Lib.hid hrun5
                have HOWN := Lib.hid hown5
                have HW5 : Hid (Below W0.heap.size W0 W5) := HOWN.out.2.2.1
                clear hrun5 hown5
                go_wp2_with (at_builtin; refine wpList_append_known rfl _ (.tmp 97) 22 rfl _ _ _ _ rfl rfl HRUN.out ?_)
                go_roundw
                case rel =>
                  refine ⟨p + 1, q + 1, cap5, A5, l ++ [⟨#[]⟩], by omega, by omega, by omega, rfl, by go_num, HOWN.out, ?_, ?_, ?_, ?_, HW5.out⟩
                  · rw [HX.out.2.2.2.1, List.map_append, List.map_append, HK.out.2.1]
                    congr 1
                    simp [rowF, HX.out.1, byt]
                  · rw [HX.out.2.2.2.1, List.any_append, HK.out.2.2.1]
                    simp [badF, HX.out.1, HX.out.2.1, HIL.out]; omega
                  · intro s hs
                    rcases List.mem_append.1 hs with h' | h'
                    · exact HK.out.2.2.2.1 s h'
                    · simp at h'; subst h'; decide
                  · rw [HBEL.out]; omega
                case measure => simp [intOf]; omega
            | false =>
              have hnx : first + nfill zs (ls.drop first) = p := by
                rw [HK.out.2.2.2.2.1, HX.out.2.2.2.2.2]; simp [HX.out.1]
              have HNX := Lib.hid hnx
              clear hnx
              go_wp2_with fail
              refine bodyPost_ret (v := .tuple #[.slice A q cap, .int .i64 (p : Int), .bool true]) (by simp [results, Try.results26, go_sem]) rfl ?_
              rw [HE.out]
              simp only []
              rw [HNX.out, body_some zs ls first _ p HK.out.2.2.1]
              exact ⟨A, q, cap, l, (HK.out.1.below HB2.out).wider HB0.out, HK.out.2.2.2.1, rfl, HK.out.2.1⟩
          · obtain rfl : p = j := by omega
            have dp : decide (p < p) = false := decide_eq_false (by omega)
            have hnx : first + nfill zs (ls.drop first) = p := by
              rw [HK.out.2.2.2.2.1, List.drop_eq_nil_of_le (by rw [HL.out.2]; omega)]; simp [nfill, nblg]
            have HNX := Lib.hid hnx
            clear hnx
            go_wp2_with fail
            refine bodyPost_ret (v := .tuple #[.slice A q cap, .int .i64 (p : Int), .bool true]) (by simp [results, Try.results26, go_sem]) rfl ?_
            rw [HE.out]
            simp only []
            rw [HNX.out, body_some zs ls first _ p HK.out.2.2.1]
            exact ⟨A, q, cap, l, HK.out.1.wider HB0.out, HK.out.2.2.2.1, rfl, HK.out.2.1⟩


set_option maxHeartbeats 16000000 in
set_option maxRecDepth 100000 in
theorem refBody_pos (b off : Nat) (n c : Nat) (zs : List Int) (B : Option Addr) (m d : Nat) (ls : List Ln) (first : Nat) (P : Nat) (fo st ke : Bool) (dg : Nat) (w : World) (hl : zs.length = n) (hnc : n ≤ c) (hm : c ≤ 9223372036854775807) (hn : n ≤ 100000) (hb : Byte zs) (hr : RdB w (some ⟨b, off, none⟩) zs)
    (hls : ls.length = m) (hmd : m ≤ d) (hm1 : m ≤ 100000) (hrl : RdL w B ls) (hv : Lies n ls) (hf : first ≤ m) (hp2 : P ≤ 100000) (hdg : dg ≤ 100000) :
    Calls Try.prog 26 #[.slice (some ⟨b, off, none⟩) n c, .slice B m d, .int .i64 (first : Int), .int .i64 (P : Int), .agg #[.bool fo, .bool st, .bool ke, .int .i64 (dg : Int)]] w (BodyP (bodyF zs ls first (refExt zs ls first (P : Int) dg).1 (refExt zs ls first (P : Int) dg).2) w) := by
  have HR := Lib.hid hr
  have HB := Lib.hid hb
  have HL := Lib.hid (And.intro hl hls)
  have HRL := Lib.hid hrl
  have HV := Lib.hid hv
  clear hr hb hl hls hrl hv
  obtain ⟨W0, hW0⟩ : ∃ x, w.alloc (.cells #[.bool fo, .bool st, .bool ke, .int .i64 (dg : Int)] 41) = x := ⟨_, rfl⟩
  have HB0 : Hid (Below w.heap.size w W0) := by rw [← hW0]; exact (Below.refl _ _).alloc (Nat.le_refl _) _
  have hc3 : W0.cell? ⟨w.heap.size, 3, none⟩ = some (.int .i64 (dg : Int)) := by rw [← hW0]; simp [World.cell?_alloc_new]
  have q5 : ¬ (P : Int) < 0 := by omega
  go_enter Try.func26, Try.ntmps26
  go_wp2_with fail
  go_loopw [13] (fun i W => ∃ j : Nat, first ≤ j ∧ j ≤ m ∧ i = .int .i64 (j : Int) ∧ Hid (first + nfill zs (ls.drop first) = j + nfill zs (ls.drop j) ∧ Below W0.heap.size W0 W)) (fun i _ => m - (intOf i).toNat)
  case atStart => exact ⟨first, by omega, by omega, rfl, rfl, (by first | exact Below.refl _ _ | (rw [hW0]; exact Below.refl _ _))⟩
  case round =>
    obtain ⟨j, hj, hjm, rfl, HK⟩ := hrel
    have c3 := cell_keep HK.out.2 hc3
    by_cases hlt : j < m
    · have hst := nfill_step zs ls j (by rw [HL.out.2]; exact hlt)
      have dj : (j : Int) < (m : Int) := by omega
      obtain ⟨g, hg⟩ : ∃ g, blkF zs (lnAt ls j) = g := ⟨_, rfl⟩
      rw [hg] at hst
      have HG := Lib.hid hg
      have HST := Lib.hid hst
      clear hg hst
      obtain ⟨bL, offL, hBL, hbL, hcL⟩ := (HRL.out.below (below_step HB0.out HK.out.2)).addr (by rw [HL.out.2]; omega)
      obtain ⟨f0, f1, f2⟩ := hcL j (by rw [HL.out.2]; exact hlt)
      obtain ⟨v0, v1⟩ := HV.out j (by rw [HL.out.2]; exact hlt)
      clear hcL
      obtain ⟨x, hx⟩ : ∃ x, lnAt ls j = x := ⟨_, rfl⟩
      rw [hx] at f0 f1 f2 v0 v1 HG
      clear hx
      subst hBL
      go_wp2_with fail
      refine (refBlank_any b off n c zs x wr HL.out.1 hnc (by omega) (HR.out.below (below_step HB0.out HK.out.2)) v0 v1 g HG.out).mono ?_
      rintro e WQ ⟨rfl, hbq⟩
      have c3 := cell_keep hbq c3
      have HBQ := Lib.hid (below_step HK.out.2 hbq)
      clear hbq f0 f1 f2 v0 v1 HG
      cases g with
      | true =>
        go_wp2_with fail
        go_roundw
        case rel =>
          refine ⟨j + 1, by omega, by omega, by go_num, ?_, HBQ.out⟩
          rw [HK.out.1, HST.out]; simp; omega
        case measure => simp [intOf]; omega
      | false =>
        have HJ : Hid (first + nfill zs (ls.drop first) = j) := by
          show _ = _
          rw [HK.out.1, HST.out]; simp
        clear HK HST
        by_cases hd0 : 0 < dg
        · have dd0 : ((dg : Int) == 0) = false := beq_eq_false_iff_ne.2 (by omega)
          have dd1 : ¬ dg = 0 := by omega
          obtain ⟨col, hcol⟩ : ∃ col, P + dg = col := ⟨_, rfl⟩
          have he := rx_dg zs ls first (P : Int) dg col hd0 (by omega)
          have HE := Lib.hid he
          have hcb : col ≤ 200000 := by omega
          have hci : (P : Int) + (dg : Int) = (col : Int) := by omega
          have HCI := Lib.hid hci
          clear he hcol hci
          go_wp2_with fail
          first | rw [HCI.out] | skip
          clear c3
          go_loopw [16, 17] (fun v i W => ∃ (p q cap : Nat) (A : Option Addr) (l : List ByteArray), first ≤ p ∧ p ≤ m ∧ q ≤ p ∧ v = .slice A q cap ∧ i = .int .i64 (p : Int) ∧
              Hid (OwnT W0 W A q cap l ∧ l.map byt = ((ls.drop first).take (p - first)).map (rowF zs (col)) ∧ ((ls.drop first).take (p - first)).any (badF zs (col)) = false ∧ (∀ s ∈ l, s.size ≤ 1000000) ∧ first + nblg zs col (ls.drop first) = p + nblg zs col (ls.drop p) ∧ Below W0.heap.size W0 W)) (fun _ i _ => m - (intOf i).toNat)
          case atStart => exact ⟨first, 0, 0, none, [], by omega, by omega, by omega, rfl, rfl, OwnT.nil W0 _ HBQ.out, by simp, by simp, by simp, rfl, HBQ.out⟩
          case round =>
            obtain ⟨p, q, cap, A, l, hp, hpm, hqp, rfl, rfl, HK⟩ := hrel
            by_cases hlt2 : p < m
            · have hst2 := nblg_step zs col ls p (by rw [HL.out.2]; exact hlt2)
              have hbw := below_step HB0.out HK.out.2.2.2.2.2
              obtain ⟨bL, offL, hBLX, hbL, hcL⟩ := (HRL.out.below hbw).addr (by rw [HL.out.2]; omega)
              first | subst hBLX | (injection hBLX with hBLX; injection hBLX with hq1 hq2; subst hq1 hq2)
              obtain ⟨f0, f1, f2⟩ := hcL p (by rw [HL.out.2]; exact hlt2)
              obtain ⟨r1, r2⟩ := HV.out p (by rw [HL.out.2]; exact hlt2)
              have htl := take_ln ls first p hp (by rw [HL.out.2]; exact hlt2)
              have hbn := fun nx => body_none zs ls first (col) nx p hp
              have dp : (p : Int) < (m : Int) := by omega
              obtain ⟨g2, hg2⟩ : ∃ g, blkF zs (lnAt ls p) = g := ⟨_, rfl⟩
              obtain ⟨i2, hi2⟩ : ∃ iw, indF zs (lnAt ls p) = iw := ⟨_, rfl⟩
              obtain ⟨k2, hk2⟩ : ∃ mk, dmk zs (lnAt ls p) = mk := ⟨_, rfl⟩
              have hib2 := indF_le zs (lnAt ls p) r1
              rw [hi2] at hib2
              have hbl2 := blk_len zs (lnAt ls p) r1
              rw [hg2, hi2] at hbl2
              obtain ⟨x, hx⟩ : ∃ x, lnAt ls p = x := ⟨_, rfl⟩
              rw [hx] at f0 f1 f2 r1 r2 htl hbn hg2 hi2 hk2 hib2 hbl2 hst2
              have HX := Lib.hid (And.intro hg2 (And.intro hi2 (And.intro hk2 (And.intro htl (And.intro hbn hst2)))))
              clear hg2 hi2 hk2 htl hbn hst2 hcL hx hbw
              go_wp2_with fail
              obtain ⟨V, hV⟩ : ∃ V, wr.alloc (.cells #[.int .i64 (x.f : Int), .int .i64 (x.t : Int), .int .i64 (x.n : Int)] 73) = V := ⟨_, rfl⟩
              have hvg : V.heap[wr.heap.size]? = some (.cells #[.int .i64 (x.f : Int), .int .i64 (x.t : Int), .int .i64 (x.n : Int)] 73) := by rw [← hV]; exact heap_alloc_new _ _
              have hvs : wr.heap.size < V.heap.size := by rw [← hV]; simp
              have HVB : Hid (Below wr.heap.size wr V) := by rw [← hV]; exact (Below.refl _ _).alloc (Nat.le_refl _) _
              have HC : Hid (∀ X, Below V.heap.size V X → X.cell? ⟨wr.heap.size, 0, none⟩ = some (.int .i64 (x.f : Int)) ∧ X.cell? ⟨wr.heap.size, 1, none⟩ = some (.int .i64 (x.t : Int)) ∧ X.cell? ⟨wr.heap.size, 2, none⟩ = some (.int .i64 (x.n : Int))) := fun X hX => by
                have := (hX.block _ hvs).trans hvg
                refine ⟨?_, ?_, ?_⟩ <;> simp [World.cell?, this]
              rw [hV]
              clear hV hvg f0 f1 f2
              refine (refBlank_any b off n c zs x V HL.out.1 hnc (by omega) (HR.out.below (below_step (below_step HB0.out HK.out.2.2.2.2.2) HVB.out)) r1 r2 g2 HX.out.1).mono ?_
              rintro e W2 ⟨rfl, hb2'⟩
              obtain ⟨k0, k1, k3⟩ := HC.out W2 hb2'
              have HB2 := Lib.hid (below_step HVB.out hb2')
              have HB2V := Lib.hid hb2'
              clear hb2'
              cases g2 with
              | true =>
                have hil : i2 = x.t - x.f := hbl2 rfl
                have HIL := Lib.hid hil
                have hbelong : first + nblg zs col (ls.drop first) = p + (nblg zs col (ls.drop (p + 1)) + 1) := by
                  rw [HK.out.2.2.2.2.1, HX.out.2.2.2.2.2]; simp [blg, HX.out.1]
                have HBEL := Lib.hid hbelong
                clear hbelong hil
                by_cases hbad : col < x.t - x.f
                · have dcol : (((col : Nat)) : Int) < (x.t : Int) - (x.f : Int) := by omega
                  have dcol2 := dcol
                  push_cast at dcol2
                  have hnone := HX.out.2.2.2.2.1 (first + nblg zs col (ls.drop first)) (by rw [HBEL.out]; omega) (by rw [HL.out.2]; exact hlt2) (by simp [badF, HX.out.1, HX.out.2.1, HIL.out, hbad])
                  have HNO := Lib.hid hnone
                  clear hnone
                  go_wp2_with fail
                  refine bodyPost_ret (v := .tuple #[.slice none 0 0, .int .i64 0, .bool false]) (by simp [results, Try.results26, go_sem]) rfl ?_
                  rw [HE.out]
                  simp only []
                  rw [HNO.out]
                  exact ⟨none, 0, 0, [], OwnT.nil w W2 (below_step (below_step HB0.out HK.out.2.2.2.2.2) HB2.out), by simp, rfl, rfl, rfl, rfl, rfl⟩
                · have dcol : ¬ (((col : Nat)) : Int) < (x.t : Int) - (x.f : Int) := by omega
                  have dcol2 := dcol
                  push_cast at dcol2
                  have dcol3 : decide ((((col : Nat)) : Int) < (x.t : Int) - (x.f : Int)) = false := decide_eq_false dcol
                  push_cast at dcol3
                  obtain ⟨A5, cap5, W5, hrun5, hown5⟩ := append_txt (HK.out.1.below HB2.out) [⟨#[]⟩] 1 rfl #[.string ⟨#[]⟩] rfl (by omega) W2.heap.size rfl (q + 1) rfl (l ++ [⟨#[]⟩]) rfl
                  have HRUN := Lib.hid hrun5
                  have HOWN := Lib.hid hown5
                  have HW5 : Hid (Below W0.heap.size W0 W5) := HOWN.out.2.2.1
                  clear hrun5 hown5
                  go_wp2_with (at_builtin; refine wpList_append_known rfl _ (.tmp 97) 22 rfl _ _ _ _ rfl rfl HRUN.out ?_)
                  go_roundw
                  case rel =>
                    refine ⟨p + 1, q + 1, cap5, A5, l ++ [⟨#[]⟩], by omega, by omega, by omega, rfl, by go_num, HOWN.out, ?_, ?_, ?_, ?_, HW5.out⟩
                    · rw [HX.out.2.2.2.1, List.map_append, List.map_append, HK.out.2.1]
                      congr 1
                      simp [rowF, HX.out.1, byt]
                    · rw [HX.out.2.2.2.1, List.any_append, HK.out.2.2.1]
                      simp [badF, HX.out.1, HX.out.2.1, HIL.out]; omega
                    · intro s hs
                      rcases List.mem_append.1 hs with h' | h'
                      · exact HK.out.2.2.2.1 s h'
                      · simp at h'; subst h'; decide
                    · rw [HBEL.out]; omega
                  case measure => simp [intOf]; omega
              | false =>
                go_wp2_with fail
                refine (refIndent_any b off n c zs x W2 HL.out.1 hnc (by omega) (HR.out.below (below_step (below_step HB0.out HK.out.2.2.2.2.2) HB2.out)) r1 r2 i2 HX.out.2.1).mono ?_
                rintro e W3 ⟨rfl, hb3⟩
                obtain ⟨e0, e1, e2⟩ := HC.out W3 (below_step HB2V.out hb3)
                have HB3 := Lib.hid (below_step HB2.out hb3)
                have HB3V := Lib.hid (below_step HB2V.out hb3)
                clear hb3 k0 k1 k3
                by_cases hic : i2 < col
                · have dic : (i2 : Int) < (col : Int) := by omega
                  have WHYC : Hid (¬ col ≤ i2) := by show ¬ _; omega
                  have hnx : first + nblg zs col (ls.drop first) = p := by
                    rw [HK.out.2.2.2.2.1, HX.out.2.2.2.2.2]; simp [blg, HX.out.1, HX.out.2.1, WHYC.out]
                  have HNX := Lib.hid hnx
                  clear hnx
                  go_wp2_with fail
                  refine bodyPost_ret (v := .tuple #[.slice A q cap, .int .i64 (p : Int), .bool true]) (by simp [results, Try.results26, go_sem]) rfl ?_
                  rw [HE.out]
                  simp only []
                  rw [HNX.out, body_some zs ls first _ p HK.out.2.2.1]
                  exact ⟨A, q, cap, l, (HK.out.1.below HB3.out).wider HB0.out, HK.out.2.2.2.1, rfl, HK.out.2.1⟩
                · have dic : decide (i2 < col) = false := decide_eq_false hic
                  have dic' : ¬ i2 < col := hic
                  go_wp2_with fail
                  refine (refStop_any b off n c zs x W3 HL.out.1 hnc hm (by omega) HB.out (HR.out.below (below_step (below_step HB0.out HK.out.2.2.2.2.2) HB3.out)) r1 r2 k2 HX.out.2.2.1).mono ?_
                  rintro e W4 ⟨rfl, hb4⟩
                  obtain ⟨g0, g1, g3⟩ := HC.out W4 (below_step HB3V.out hb4)
                  have HB4 := Lib.hid (below_step HB3.out hb4)
                  clear hb4 e0 e1 e2
                  cases k2 with
                  | true =>
                    have hnx : first + nblg zs col (ls.drop first) = p := by
                      rw [HK.out.2.2.2.2.1, HX.out.2.2.2.2.2]; simp [blg, HX.out.1, HX.out.2.2.1]
                    have HNX := Lib.hid hnx
                    clear hnx
                    go_wp2_with fail
                    refine bodyPost_ret (v := .tuple #[.slice A q cap, .int .i64 (p : Int), .bool true]) (by simp [results, Try.results26, go_sem]) rfl ?_
                    rw [HE.out]
                    simp only []
                    rw [HNX.out, body_some zs ls first _ p HK.out.2.2.1]
                    exact ⟨A, q, cap, l, (HK.out.1.below HB4.out).wider HB0.out, HK.out.2.2.2.1, rfl, HK.out.2.1⟩
                  | false =>
                    have hbelong : first + nblg zs col (ls.drop first) = p + (nblg zs col (ls.drop (p + 1)) + 1) := by
                      rw [HK.out.2.2.2.2.1, HX.out.2.2.2.2.2]
                      have : col ≤ i2 := by omega
                      simp [blg, HX.out.1, HX.out.2.1, HX.out.2.2.1, this]
                    have HBEL := Lib.hid hbelong
                    clear hbelong
                    have hcl := cont_drop zs x (col) (by omega)
                    have hcb : Byte ((cont zs x).drop (col)) := ((HB.out.drop _).take _).drop _
                    obtain ⟨A4, hs4, hA4, hr4⟩ := slice_lh (some ⟨b, off, none⟩) n c (x.f + col) x.t zs HL.out.1 hnc (fun h => by cases h) (by omega) r2
                    rw [hcl] at hr4
                    have hs4' : ∀ W, (Instr.slice 24 (.slice (some ⟨b, off, none⟩) n c) (some (.int .i64 ((x.f : Int) + (col : Int)))) (some (.int .i64 (x.t : Int))) none).run Try.prog W = .ok (.slice A4 (x.t - (x.f + col)) (c - (x.f + col))) W := fun W => hs4 W
                    have hlen : ((cont zs x).drop (col)).length = x.t - (x.f + col) := by rw [← hcl, List.length_take, List.length_drop, HL.out.1]; omega
                    have hcv := run_string_rd W4 A4 (x.t - (x.f + col)) (c - (x.f + col)) ((cont zs x).drop (col)) hlen (hr4 W4 (HR.out.below (below_step (below_step HB0.out HK.out.2.2.2.2.2) HB4.out)))
                    have hby := byt_strOfNums ((cont zs x).drop (col)) hcb
                    generalize strOfNums ((cont zs x).drop (col)) = r at *
                    have hrs' : r.size ≤ 100000 := by rw [← byt_len, hby, hlen]; omega
                    obtain ⟨A5, cap5, W5, hrun5, hown5⟩ := append_txt (HK.out.1.below HB4.out) [r] 1 rfl #[.string r] rfl (by omega) W4.heap.size rfl (q + 1) rfl (l ++ [r]) rfl
                    have HBY := Lib.hid hby
                    have HRUN := Lib.hid hrun5
                    have HOWN := Lib.hid hown5
                    have HW5 : Hid (Below W0.heap.size W0 W5) := HOWN.out.2.2.1
                    clear hcl hcb hs4 hA4 hr4 hlen hby hrun5 hown5
                    go_wp2_with (at_builtin; refine wpList_append_known rfl _ (.tmp 122) 22 rfl _ _ _ _ rfl rfl HRUN.out ?_)
                    go_roundw
                    case rel =>
                      refine ⟨p + 1, q + 1, cap5, A5, l ++ [r], by omega, by omega, by omega, rfl, by go_num, HOWN.out, ?_, ?_, ?_, ?_, HW5.out⟩
                      · rw [HX.out.2.2.2.1, List.map_append, List.map_append, HK.out.2.1]
                        congr 1
                        simp [rowF, HX.out.1, HBY.out]
                      · rw [HX.out.2.2.2.1, List.any_append, HK.out.2.2.1]
                        simp [badF, HX.out.1]
                      · intro s hs
                        rcases List.mem_append.1 hs with h' | h'
                        · exact HK.out.2.2.2.1 s h'
                        · simp at h'; subst h'; omega
                      · rw [HBEL.out]; omega
                    case measure => simp [intOf]; omega
            · obtain rfl : p = m := by omega
              have dp : decide (p < p) = false := decide_eq_false (by omega)
              have hnx : first + nblg zs col (ls.drop first) = p := by
                rw [HK.out.2.2.2.2.1, List.drop_eq_nil_of_le (by rw [HL.out.2]; omega)]; simp [nfill, nblg]
              have HNX := Lib.hid hnx
              clear hnx
              go_wp2_with fail
              refine bodyPost_ret (v := .tuple #[.slice A q cap, .int .i64 (p : Int), .bool true]) (by simp [results, Try.results26, go_sem]) rfl ?_
              rw [HE.out]
              simp only []
              rw [HNX.out, body_some zs ls first _ p HK.out.2.2.1]
              exact ⟨A, q, cap, l, HK.out.1.wider HB0.out, HK.out.2.2.2.1, rfl, HK.out.2.1⟩
        · have HDG : Hid (dg = 0) := by show dg = 0; omega
          have dd0 : ((dg : Int) == 0) = true := beq_iff_eq.2 (by omega)
          have deq' : ¬ m ≤ j := by omega
          have deq : decide (m ≤ j) = false := decide_eq_false deq'
          have deq2 : (j == m) = false := beq_eq_false_iff_ne.2 (by omega)
          obtain ⟨bL2, offL2, hBL2, hbL2, hcL⟩ := (HRL.out.below (below_step HB0.out HBQ.out)).addr (by rw [HL.out.2]; omega)
          injection hBL2 with hBL2
          injection hBL2 with hBL3 hBL4
          subst hBL3 hBL4
          obtain ⟨f0, f1, f2⟩ := hcL j (by rw [HL.out.2]; exact hlt)
          obtain ⟨v0, v1⟩ := HV.out j (by rw [HL.out.2]; exact hlt)
          obtain ⟨iw, hiw⟩ : ∃ iw, indF zs (lnAt ls j) = iw := ⟨_, rfl⟩
          obtain ⟨mk, hmk⟩ : ∃ mk, dmk zs (lnAt ls j) = mk := ⟨_, rfl⟩
          have hol : onlyF zs ls j (P : Int) = (decide ((iw : Int) ≤ (P : Int)) || mk) := by
            unfold onlyF; rw [hiw, hmk, HL.out.2, deq2]; rfl
          have HX := Lib.hid (And.intro hiw (And.intro hmk hol))
          have hib := indF_le zs (lnAt ls j) v0
          rw [hiw] at hib
          clear hcL hiw hmk hol
          have hext : onlyF zs ls j (P : Int) = false → refExt zs ls first (P : Int) dg = (iw, first + nblg zs iw (ls.drop first)) := fun ho => by
            rw [HDG.out]; exact rx_ind zs ls first (P : Int) j iw HJ.out HX.out.1 ho
          have hextO : onlyF zs ls j (P : Int) = true → refExt zs ls first (P : Int) dg = (P + 1, first + nfill zs (ls.drop first)) := fun ho => by
            rw [HDG.out]; exact rx_only zs ls first (P : Int) j (P) HJ.out (by omega) ho
          have HEX := Lib.hid (And.intro hext hextO)
          clear hext hextO
          generalize lnAt ls j = x at *
          have hibn : iw ≤ n := by omega
          go_wp2_with fail
          refine (refIndent_any b off n c zs x WQ HL.out.1 hnc (by omega) (HR.out.below (below_step HB0.out HBQ.out)) v0 v1 iw HX.out.1).mono ?_
          rintro e W3 ⟨rfl, hb3⟩
          obtain ⟨g0, g1, g2⟩ : W3.cell? ⟨bL, offL + j * 3, none⟩ = some (.int .i64 (x.f : Int)) ∧ W3.cell? ⟨bL, offL + j * 3 + 1, none⟩ = some (.int .i64 (x.t : Int)) ∧ W3.cell? ⟨bL, offL + j * 3 + 2, none⟩ = some (.int .i64 (x.n : Int)) := ⟨cell_keep hb3 f0, cell_keep hb3 f1, cell_keep hb3 f2⟩
          have HB3 := Lib.hid (below_step HBQ.out hb3)
          clear hb3 f0 f1 f2 c3
          by_cases hip : (iw : Int) ≤ (P : Int)
          · have he := HEX.out.2 (by rw [HX.out.2.2, decide_eq_true hip]; rfl)
            have HE := Lib.hid he
            clear he
            have hipI : (iw : Int) ≤ (P : Int) := hip
            have hipN : iw ≤ P := by omega
            clear HBQ
            have HBQ := HB3
            go_wp2_with fail
            clear g0 g1 g2 HX HEX
            go_loopw [16, 17] (fun v i W => ∃ (p q cap : Nat) (A : Option Addr) (l : List ByteArray), first ≤ p ∧ p ≤ m ∧ q ≤ p ∧ v = .slice A q cap ∧ i = .int .i64 (p : Int) ∧
                Hid (OwnT W0 W A q cap l ∧ l.map byt = ((ls.drop first).take (p - first)).map (rowF zs ((P + 1))) ∧ ((ls.drop first).take (p - first)).any (badF zs ((P + 1))) = false ∧ (∀ s ∈ l, s.size ≤ 1000000) ∧ first + nfill zs (ls.drop first) = p + nfill zs (ls.drop p) ∧ Below W0.heap.size W0 W)) (fun _ i _ => m - (intOf i).toNat)
            case atStart => exact ⟨first, 0, 0, none, [], by omega, by omega, by omega, rfl, rfl, OwnT.nil W0 _ HBQ.out, by simp, by simp, by simp, rfl, HBQ.out⟩
            case round =>
              obtain ⟨p, q, cap, A, l, hp, hpm, hqp, rfl, rfl, HK⟩ := hrel
              by_cases hlt2 : p < m
              · have hst2 := nfill_step zs ls p (by rw [HL.out.2]; exact hlt2)
                have hbw := below_step HB0.out HK.out.2.2.2.2.2
                obtain ⟨bL, offL, hBLX, hbL, hcL⟩ := (HRL.out.below hbw).addr (by rw [HL.out.2]; omega)
                first | subst hBLX | (injection hBLX with hBLX; injection hBLX with hq1 hq2; subst hq1 hq2)
                obtain ⟨f0, f1, f2⟩ := hcL p (by rw [HL.out.2]; exact hlt2)
                obtain ⟨r1, r2⟩ := HV.out p (by rw [HL.out.2]; exact hlt2)
                have htl := take_ln ls first p hp (by rw [HL.out.2]; exact hlt2)
                have hbn := fun nx => body_none zs ls first ((P + 1)) nx p hp
                have dp : (p : Int) < (m : Int) := by omega
                obtain ⟨g2, hg2⟩ : ∃ g, blkF zs (lnAt ls p) = g := ⟨_, rfl⟩
                obtain ⟨i2, hi2⟩ : ∃ iw, indF zs (lnAt ls p) = iw := ⟨_, rfl⟩
                obtain ⟨k2, hk2⟩ : ∃ mk, dmk zs (lnAt ls p) = mk := ⟨_, rfl⟩
                have hib2 := indF_le zs (lnAt ls p) r1
                rw [hi2] at hib2
                have hbl2 := blk_len zs (lnAt ls p) r1
                rw [hg2, hi2] at hbl2
                obtain ⟨x, hx⟩ : ∃ x, lnAt ls p = x := ⟨_, rfl⟩
                rw [hx] at f0 f1 f2 r1 r2 htl hbn hg2 hi2 hk2 hib2 hbl2 hst2
                have HX := Lib.hid (And.intro hg2 (And.intro hi2 (And.intro hk2 (And.intro htl (And.intro hbn hst2)))))
                clear hg2 hi2 hk2 htl hbn hst2 hcL hx hbw
                go_wp2_with fail
                obtain ⟨V, hV⟩ : ∃ V, wr.alloc (.cells #[.int .i64 (x.f : Int), .int .i64 (x.t : Int), .int .i64 (x.n : Int)] 73) = V := ⟨_, rfl⟩
                have hvg : V.heap[wr.heap.size]? = some (.cells #[.int .i64 (x.f : Int), .int .i64 (x.t : Int), .int .i64 (x.n : Int)] 73) := by rw [← hV]; exact heap_alloc_new _ _
                have hvs : wr.heap.size < V.heap.size := by rw [← hV]; simp
                have HVB : Hid (Below wr.heap.size wr V) := by rw [← hV]; exact (Below.refl _ _).alloc (Nat.le_refl _) _
                have HC : Hid (∀ X, Below V.heap.size V X → X.cell? ⟨wr.heap.size, 0, none⟩ = some (.int .i64 (x.f : Int)) ∧ X.cell? ⟨wr.heap.size, 1, none⟩ = some (.int .i64 (x.t : Int)) ∧ X.cell? ⟨wr.heap.size, 2, none⟩ = some (.int .i64 (x.n : Int))) := fun X hX => by
                  have := (hX.block _ hvs).trans hvg
                  refine ⟨?_, ?_, ?_⟩ <;> simp [World.cell?, this]
                rw [hV]
                clear hV hvg f0 f1 f2
                refine (refBlank_any b off n c zs x V HL.out.1 hnc (by omega) (HR.out.below (below_step (below_step HB0.out HK.out.2.2.2.2.2) HVB.out)) r1 r2 g2 HX.out.1).mono ?_
                rintro e W2 ⟨rfl, hb2'⟩
                obtain ⟨k0, k1, k3⟩ := HC.out W2 hb2'
                have HB2 := Lib.hid (below_step HVB.out hb2')
                have HB2V := Lib.hid hb2'
                clear hb2'
                cases g2 with
                | true =>
                  have hil : i2 = x.t - x.f := hbl2 rfl
                  have HIL := Lib.hid hil
                  have hbelong : first + nfill zs (ls.drop first) = p + (nfill zs (ls.drop (p + 1)) + 1) := by
                    rw [HK.out.2.2.2.2.1, HX.out.2.2.2.2.2]; simp [blg, HX.out.1]
                  have HBEL := Lib.hid hbelong
                  clear hbelong hil
                  by_cases hbad : (P + 1) < x.t - x.f
                  · have dcol : ((((P + 1) : Nat)) : Int) < (x.t : Int) - (x.f : Int) := by omega
                    have dcol2 := dcol
                    push_cast at dcol2
                    have hnone := HX.out.2.2.2.2.1 (first + nfill zs (ls.drop first)) (by rw [HBEL.out]; omega) (by rw [HL.out.2]; exact hlt2) (by simp [badF, HX.out.1, HX.out.2.1, HIL.out, hbad])
                    have HNO := Lib.hid hnone
                    clear hnone
                    go_wp2_with fail
                    refine bodyPost_ret (v := .tuple #[.slice none 0 0, .int .i64 0, .bool false]) (by simp [results, Try.results26, go_sem]) rfl ?_
                    rw [HE.out]
                    simp only []
                    rw [HNO.out]
                    exact ⟨none, 0, 0, [], OwnT.nil w W2 (below_step (below_step HB0.out HK.out.2.2.2.2.2) HB2.out), by simp, rfl, rfl, rfl, rfl, rfl⟩
                  · have dcol : ¬ ((((P + 1) : Nat)) : Int) < (x.t : Int) - (x.f : Int) := by omega
                    have dcol2 := dcol
                    push_cast at dcol2
                    have dcol3 : decide (((((P + 1) : Nat)) : Int) < (x.t : Int) - (x.f : Int)) = false := decide_eq_false dcol
                    push_cast at dcol3
                    obtain ⟨A5, cap5, W5, hrun5, hown5⟩ := append_txt (HK.out.1.below HB2.out) [⟨#[]⟩] 1 rfl #[.string ⟨#[]⟩] rfl (by omega) W2.heap.size rfl (q + 1) rfl (l ++ [⟨#[]⟩]) rfl
                    have HRUN := Lib.hid hrun5
                    have HOWN := Lib.hid hown5
                    have HW5 : Hid (Below W0.heap.size W0 W5) := HOWN.out.2.2.1
                    clear hrun5 hown5
                    go_wp2_with (at_builtin; refine wpList_append_known rfl _ (.tmp 97) 22 rfl _ _ _ _ rfl rfl HRUN.out ?_)
                    go_roundw
                    case rel =>
                      refine ⟨p + 1, q + 1, cap5, A5, l ++ [⟨#[]⟩], by omega, by omega, by omega, rfl, by go_num, HOWN.out, ?_, ?_, ?_, ?_, HW5.out⟩
                      · rw [HX.out.2.2.2.1, List.map_append, List.map_append, HK.out.2.1]
                        congr 1
                        simp [rowF, HX.out.1, byt]
                      · rw [HX.out.2.2.2.1, List.any_append, HK.out.2.2.1]
                        simp [badF, HX.out.1, HX.out.2.1, HIL.out]; omega
                      · intro s hs
                        rcases List.mem_append.1 hs with h' | h'
                        · exact HK.out.2.2.2.1 s h'
                        · simp at h'; subst h'; decide
                      · rw [HBEL.out]; omega
                    case measure => simp [intOf]; omega
                | false =>
                  have hnx : first + nfill zs (ls.drop first) = p := by
                    rw [HK.out.2.2.2.2.1, HX.out.2.2.2.2.2]; simp [HX.out.1]
                  have HNX := Lib.hid hnx
                  clear hnx
                  go_wp2_with fail
                  refine bodyPost_ret (v := .tuple #[.slice A q cap, .int .i64 (p : Int), .bool true]) (by simp [results, Try.results26, go_sem]) rfl ?_
                  rw [HE.out]
                  simp only []
                  rw [HNX.out, body_some zs ls first _ p HK.out.2.2.1]
                  exact ⟨A, q, cap, l, (HK.out.1.below HB2.out).wider HB0.out, HK.out.2.2.2.1, rfl, HK.out.2.1⟩
              · obtain rfl : p = m := by omega
                have dp : decide (p < p) = false := decide_eq_false (by omega)
                have hnx : first + nfill zs (ls.drop first) = p := by
                  rw [HK.out.2.2.2.2.1, List.drop_eq_nil_of_le (by rw [HL.out.2]; omega)]; simp [nfill, nblg]
                have HNX := Lib.hid hnx
                clear hnx
                go_wp2_with fail
                refine bodyPost_ret (v := .tuple #[.slice A q cap, .int .i64 (p : Int), .bool true]) (by simp [results, Try.results26, go_sem]) rfl ?_
                rw [HE.out]
                simp only []
                rw [HNX.out, body_some zs ls first _ p HK.out.2.2.1]
                exact ⟨A, q, cap, l, HK.out.1.wider HB0.out, HK.out.2.2.2.1, rfl, HK.out.2.1⟩
          · have hipd : decide ((iw : Int) ≤ (P : Int)) = false := decide_eq_false hip
            have hx1 : ¬ iw ≤ P := by omega
            have hx2 : decide (iw ≤ P) = false := decide_eq_false hx1
            go_wp2_with fail
            refine (refStop_any b off n c zs x W3 HL.out.1 hnc hm (by omega) HB.out (HR.out.below (below_step HB0.out HB3.out)) v0 v1 mk HX.out.2.1).mono ?_
            rintro e W4 ⟨rfl, hb4⟩
            obtain ⟨k0, k1, k2⟩ : W4.cell? ⟨bL, offL + j * 3, none⟩ = some (.int .i64 (x.f : Int)) ∧ W4.cell? ⟨bL, offL + j * 3 + 1, none⟩ = some (.int .i64 (x.t : Int)) ∧ W4.cell? ⟨bL, offL + j * 3 + 2, none⟩ = some (.int .i64 (x.n : Int)) := ⟨cell_keep hb4 g0, cell_keep hb4 g1, cell_keep hb4 g2⟩
            have HB4 := Lib.hid (below_step HB3.out hb4)
            clear hb4 g0 g1 g2
            cases mk with
            | true =>
              have he := HEX.out.2 (by rw [HX.out.2.2]; simp)
              have HE := Lib.hid he
              clear he HBQ
              have HBQ := HB4
              go_wp2_with fail
              clear k0 k1 k2 HX HEX
              go_loopw [16, 17] (fun v i W => ∃ (p q cap : Nat) (A : Option Addr) (l : List ByteArray), first ≤ p ∧ p ≤ m ∧ q ≤ p ∧ v = .slice A q cap ∧ i = .int .i64 (p : Int) ∧
                  Hid (OwnT W0 W A q cap l ∧ l.map byt = ((ls.drop first).take (p - first)).map (rowF zs ((P + 1))) ∧ ((ls.drop first).take (p - first)).any (badF zs ((P + 1))) = false ∧ (∀ s ∈ l, s.size ≤ 1000000) ∧ first + nfill zs (ls.drop first) = p + nfill zs (ls.drop p) ∧ Below W0.heap.size W0 W)) (fun _ i _ => m - (intOf i).toNat)
              case atStart => exact ⟨first, 0, 0, none, [], by omega, by omega, by omega, rfl, rfl, OwnT.nil W0 _ HBQ.out, by simp, by simp, by simp, rfl, HBQ.out⟩
              case round =>
                obtain ⟨p, q, cap, A, l, hp, hpm, hqp, rfl, rfl, HK⟩ := hrel
                by_cases hlt2 : p < m
                · have hst2 := nfill_step zs ls p (by rw [HL.out.2]; exact hlt2)
                  have hbw := below_step HB0.out HK.out.2.2.2.2.2
                  obtain ⟨bL, offL, hBLX, hbL, hcL⟩ := (HRL.out.below hbw).addr (by rw [HL.out.2]; omega)
                  first | subst hBLX | (injection hBLX with hBLX; injection hBLX with hq1 hq2; subst hq1 hq2)
                  obtain ⟨f0, f1, f2⟩ := hcL p (by rw [HL.out.2]; exact hlt2)
                  obtain ⟨r1, r2⟩ := HV.out p (by rw [HL.out.2]; exact hlt2)
                  have htl := take_ln ls first p hp (by rw [HL.out.2]; exact hlt2)
                  have hbn := fun nx => body_none zs ls first ((P + 1)) nx p hp
                  have dp : (p : Int) < (m : Int) := by omega
                  obtain ⟨g2, hg2⟩ : ∃ g, blkF zs (lnAt ls p) = g := ⟨_, rfl⟩
                  obtain ⟨i2, hi2⟩ : ∃ iw, indF zs (lnAt ls p) = iw := ⟨_, rfl⟩
                  obtain ⟨k2, hk2⟩ : ∃ mk, dmk zs (lnAt ls p) = mk := ⟨_, rfl⟩
                  have hib2 := indF_le zs (lnAt ls p) r1
                  rw [hi2] at hib2
                  have hbl2 := blk_len zs (lnAt ls p) r1
                  rw [hg2, hi2] at hbl2
                  obtain ⟨x, hx⟩ : ∃ x, lnAt ls p = x := ⟨_, rfl⟩
                  rw [hx] at f0 f1 f2 r1 r2 htl hbn hg2 hi2 hk2 hib2 hbl2 hst2
                  have HX := Lib.hid (And.intro hg2 (And.intro hi2 (And.intro hk2 (And.intro htl (And.intro hbn hst2)))))
                  clear hg2 hi2 hk2 htl hbn hst2 hcL hx hbw
                  go_wp2_with fail
                  obtain ⟨V, hV⟩ : ∃ V, wr.alloc (.cells #[.int .i64 (x.f : Int), .int .i64 (x.t : Int), .int .i64 (x.n : Int)] 73) = V := ⟨_, rfl⟩
                  have hvg : V.heap[wr.heap.size]? = some (.cells #[.int .i64 (x.f : Int), .int .i64 (x.t : Int), .int .i64 (x.n : Int)] 73) := by rw [← hV]; exact heap_alloc_new _ _
                  have hvs : wr.heap.size < V.heap.size := by rw [← hV]; simp
                  have HVB : Hid (Below wr.heap.size wr V) := by rw [← hV]; exact (Below.refl _ _).alloc (Nat.le_refl _) _
                  have HC : Hid (∀ X, Below V.heap.size V X → X.cell? ⟨wr.heap.size, 0, none⟩ = some (.int .i64 (x.f : Int)) ∧ X.cell? ⟨wr.heap.size, 1, none⟩ = some (.int .i64 (x.t : Int)) ∧ X.cell? ⟨wr.heap.size, 2, none⟩ = some (.int .i64 (x.n : Int))) := fun X hX => by
                    have := (hX.block _ hvs).trans hvg
                    refine ⟨?_, ?_, ?_⟩ <;> simp [World.cell?, this]
                  rw [hV]
                  clear hV hvg f0 f1 f2
                  refine (refBlank_any b off n c zs x V HL.out.1 hnc (by omega) (HR.out.below (below_step (below_step HB0.out HK.out.2.2.2.2.2) HVB.out)) r1 r2 g2 HX.out.1).mono ?_
                  rintro e W2 ⟨rfl, hb2'⟩
                  obtain ⟨k0, k1, k3⟩ := HC.out W2 hb2'
                  have HB2 := Lib.hid (below_step HVB.out hb2')
                  have HB2V := Lib.hid hb2'
                  clear hb2'
                  cases g2 with
                  | true =>
                    have hil : i2 = x.t - x.f := hbl2 rfl
                    have HIL := Lib.hid hil
                    have hbelong : first + nfill zs (ls.drop first) = p + (nfill zs (ls.drop (p + 1)) + 1) := by
                      rw [HK.out.2.2.2.2.1, HX.out.2.2.2.2.2]; simp [blg, HX.out.1]
                    have HBEL := Lib.hid hbelong
                    clear hbelong hil
                    by_cases hbad : (P + 1) < x.t - x.f
                    · have dcol : ((((P + 1) : Nat)) : Int) < (x.t : Int) - (x.f : Int) := by omega
                      have dcol2 := dcol
                      push_cast at dcol2
                      have hnone := HX.out.2.2.2.2.1 (first + nfill zs (ls.drop first)) (by rw [HBEL.out]; omega) (by rw [HL.out.2]; exact hlt2) (by simp [badF, HX.out.1, HX.out.2.1, HIL.out, hbad])
                      have HNO := Lib.hid hnone
                      clear hnone
                      go_wp2_with fail
                      refine bodyPost_ret (v := .tuple #[.slice none 0 0, .int .i64 0, .bool false]) (by simp [results, Try.results26, go_sem]) rfl ?_
                      rw [HE.out]
                      simp only []
                      rw [HNO.out]
                      exact ⟨none, 0, 0, [], OwnT.nil w W2 (below_step (below_step HB0.out HK.out.2.2.2.2.2) HB2.out), by simp, rfl, rfl, rfl, rfl, rfl⟩
                    · have dcol : ¬ ((((P + 1) : Nat)) : Int) < (x.t : Int) - (x.f : Int) := by omega
                      have dcol2 := dcol
                      push_cast at dcol2
                      have dcol3 : decide (((((P + 1) : Nat)) : Int) < (x.t : Int) - (x.f : Int)) = false := decide_eq_false dcol
                      push_cast at dcol3
                      obtain ⟨A5, cap5, W5, hrun5, hown5⟩ := append_txt (HK.out.1.below HB2.out) [⟨#[]⟩] 1 rfl #[.string ⟨#[]⟩] rfl (by omega) W2.heap.size rfl (q + 1) rfl (l ++ [⟨#[]⟩]) rfl
                      have HRUN := Lib.hid hrun5
                      have HOWN := Lib.hid hown5
                      have HW5 : Hid (Below W0.heap.size W0 W5) := HOWN.out.2.2.1
                      clear hrun5 hown5
                      go_wp2_with (at_builtin; refine wpList_append_known rfl _ (.tmp 97) 22 rfl _ _ _ _ rfl rfl HRUN.out ?_)
                      go_roundw
                      case rel =>
                        refine ⟨p + 1, q + 1, cap5, A5, l ++ [⟨#[]⟩], by omega, by omega, by omega, rfl, by go_num, HOWN.out, ?_, ?_, ?_, ?_, HW5.out⟩
                        · rw [HX.out.2.2.2.1, List.map_append, List.map_append, HK.out.2.1]
                          congr 1
                          simp [rowF, HX.out.1, byt]
                        · rw [HX.out.2.2.2.1, List.any_append, HK.out.2.2.1]
                          simp [badF, HX.out.1, HX.out.2.1, HIL.out]; omega
                        · intro s hs
                          rcases List.mem_append.1 hs with h' | h'
                          · exact HK.out.2.2.2.1 s h'
                          · simp at h'; subst h'; decide
                        · rw [HBEL.out]; omega
                      case measure => simp [intOf]; omega
                  | false =>
                    have hnx : first + nfill zs (ls.drop first) = p := by
                      rw [HK.out.2.2.2.2.1, HX.out.2.2.2.2.2]; simp [HX.out.1]
                    have HNX := Lib.hid hnx
                    clear hnx
                    go_wp2_with fail
                    refine bodyPost_ret (v := .tuple #[.slice A q cap, .int .i64 (p : Int), .bool true]) (by simp [results, Try.results26, go_sem]) rfl ?_
                    rw [HE.out]
                    simp only []
                    rw [HNX.out, body_some zs ls first _ p HK.out.2.2.1]
                    exact ⟨A, q, cap, l, (HK.out.1.below HB2.out).wider HB0.out, HK.out.2.2.2.1, rfl, HK.out.2.1⟩
                · obtain rfl : p = m := by omega
                  have dp : decide (p < p) = false := decide_eq_false (by omega)
                  have hnx : first + nfill zs (ls.drop first) = p := by
                    rw [HK.out.2.2.2.2.1, List.drop_eq_nil_of_le (by rw [HL.out.2]; omega)]; simp [nfill, nblg]
                  have HNX := Lib.hid hnx
                  clear hnx
                  go_wp2_with fail
                  refine bodyPost_ret (v := .tuple #[.slice A q cap, .int .i64 (p : Int), .bool true]) (by simp [results, Try.results26, go_sem]) rfl ?_
                  rw [HE.out]
                  simp only []
                  rw [HNX.out, body_some zs ls first _ p HK.out.2.2.1]
                  exact ⟨A, q, cap, l, HK.out.1.wider HB0.out, HK.out.2.2.2.1, rfl, HK.out.2.1⟩
            | false =>
              have he := HEX.out.1 (by rw [HX.out.2.2, hipd]; rfl)
              have HE := Lib.hid he
              clear he
              go_wp2_with fail
              refine (refIndent_any b off n c zs x W4 HL.out.1 hnc (by omega) (HR.out.below (below_step HB0.out HB4.out)) v0 v1 iw HX.out.1).mono ?_
              rintro e W5 ⟨rfl, hb5⟩
              clear HBQ
              have HBQ := Lib.hid (below_step HB4.out hb5)
              clear hb5 k0 k1 k2 HX HEX
              go_wp2_with fail
              go_loopw [16, 17] (fun v i W => ∃ (p q cap : Nat) (A : Option Addr) (l : List ByteArray), first ≤ p ∧ p ≤ m ∧ q ≤ p ∧ v = .slice A q cap ∧ i = .int .i64 (p : Int) ∧
                  Hid (OwnT W0 W A q cap l ∧ l.map byt = ((ls.drop first).take (p - first)).map (rowF zs (iw)) ∧ ((ls.drop first).take (p - first)).any (badF zs (iw)) = false ∧ (∀ s ∈ l, s.size ≤ 1000000) ∧ first + nblg zs iw (ls.drop first) = p + nblg zs iw (ls.drop p) ∧ Below W0.heap.size W0 W)) (fun _ i _ => m - (intOf i).toNat)
              case atStart => exact ⟨first, 0, 0, none, [], by omega, by omega, by omega, rfl, rfl, OwnT.nil W0 _ HBQ.out, by simp, by simp, by simp, rfl, HBQ.out⟩
              case round =>
                obtain ⟨p, q, cap, A, l, hp, hpm, hqp, rfl, rfl, HK⟩ := hrel
                by_cases hlt2 : p < m
                · have hst2 := nblg_step zs iw ls p (by rw [HL.out.2]; exact hlt2)
                  have hbw := below_step HB0.out HK.out.2.2.2.2.2
                  obtain ⟨bL, offL, hBLX, hbL, hcL⟩ := (HRL.out.below hbw).addr (by rw [HL.out.2]; omega)
                  first | subst hBLX | (injection hBLX with hBLX; injection hBLX with hq1 hq2; subst hq1 hq2)
                  obtain ⟨f0, f1, f2⟩ := hcL p (by rw [HL.out.2]; exact hlt2)
                  obtain ⟨r1, r2⟩ := HV.out p (by rw [HL.out.2]; exact hlt2)
                  have htl := take_ln ls first p hp (by rw [HL.out.2]; exact hlt2)
                  have hbn := fun nx => body_none zs ls first (iw) nx p hp
                  have dp : (p : Int) < (m : Int) := by omega
                  obtain ⟨g2, hg2⟩ : ∃ g, blkF zs (lnAt ls p) = g := ⟨_, rfl⟩
                  obtain ⟨i2, hi2⟩ : ∃ iw, indF zs (lnAt ls p) = iw := ⟨_, rfl⟩
                  obtain ⟨k2, hk2⟩ : ∃ mk, dmk zs (lnAt ls p) = mk := ⟨_, rfl⟩
                  have hib2 := indF_le zs (lnAt ls p) r1
                  rw [hi2] at hib2
                  have hbl2 := blk_len zs (lnAt ls p) r1
                  rw [hg2, hi2] at hbl2
                  obtain ⟨x, hx⟩ : ∃ x, lnAt ls p = x := ⟨_, rfl⟩
                  rw [hx] at f0 f1 f2 r1 r2 htl hbn hg2 hi2 hk2 hib2 hbl2 hst2
                  have HX := Lib.hid (And.intro hg2 (And.intro hi2 (And.intro hk2 (And.intro htl (And.intro hbn hst2)))))
                  clear hg2 hi2 hk2 htl hbn hst2 hcL hx hbw
                  go_wp2_with fail
                  obtain ⟨V, hV⟩ : ∃ V, wr.alloc (.cells #[.int .i64 (x.f : Int), .int .i64 (x.t : Int), .int .i64 (x.n : Int)] 73) = V := ⟨_, rfl⟩
                  have hvg : V.heap[wr.heap.size]? = some (.cells #[.int .i64 (x.f : Int), .int .i64 (x.t : Int), .int .i64 (x.n : Int)] 73) := by rw [← hV]; exact heap_alloc_new _ _
                  have hvs : wr.heap.size < V.heap.size := by rw [← hV]; simp
                  have HVB : Hid (Below wr.heap.size wr V) := by rw [← hV]; exact (Below.refl _ _).alloc (Nat.le_refl _) _
                  have HC : Hid (∀ X, Below V.heap.size V X → X.cell? ⟨wr.heap.size, 0, none⟩ = some (.int .i64 (x.f : Int)) ∧ X.cell? ⟨wr.heap.size, 1, none⟩ = some (.int .i64 (x.t : Int)) ∧ X.cell? ⟨wr.heap.size, 2, none⟩ = some (.int .i64 (x.n : Int))) := fun X hX => by
                    have := (hX.block _ hvs).trans hvg
                    refine ⟨?_, ?_, ?_⟩ <;> simp [World.cell?, this]
                  rw [hV]
                  clear hV hvg f0 f1 f2
                  refine (refBlank_any b off n c zs x V HL.out.1 hnc (by omega) (HR.out.below (below_step (below_step HB0.out HK.out.2.2.2.2.2) HVB.out)) r1 r2 g2 HX.out.1).mono ?_
                  rintro e W2 ⟨rfl, hb2'⟩
                  obtain ⟨k0, k1, k3⟩ := HC.out W2 hb2'
                  have HB2 := Lib.hid (below_step HVB.out hb2')
                  have HB2V := Lib.hid hb2'
                  clear hb2'
                  cases g2 with
                  | true =>
                    have hil : i2 = x.t - x.f := hbl2 rfl
                    have HIL := Lib.hid hil
                    have hbelong : first + nblg zs iw (ls.drop first) = p + (nblg zs iw (ls.drop (p + 1)) + 1) := by
                      rw [HK.out.2.2.2.2.1, HX.out.2.2.2.2.2]; simp [blg, HX.out.1]
                    have HBEL := Lib.hid hbelong
                    clear hbelong hil
                    by_cases hbad : iw < x.t - x.f
                    · have dcol : (((iw : Nat)) : Int) < (x.t : Int) - (x.f : Int) := by omega
                      have dcol2 := dcol
                      push_cast at dcol2
                      have hnone := HX.out.2.2.2.2.1 (first + nblg zs iw (ls.drop first)) (by rw [HBEL.out]; omega) (by rw [HL.out.2]; exact hlt2) (by simp [badF, HX.out.1, HX.out.2.1, HIL.out, hbad])
                      have HNO := Lib.hid hnone
                      clear hnone
                      go_wp2_with fail
                      refine bodyPost_ret (v := .tuple #[.slice none 0 0, .int .i64 0, .bool false]) (by simp [results, Try.results26, go_sem]) rfl ?_
                      rw [HE.out]
                      simp only []
                      rw [HNO.out]
                      exact ⟨none, 0, 0, [], OwnT.nil w W2 (below_step (below_step HB0.out HK.out.2.2.2.2.2) HB2.out), by simp, rfl, rfl, rfl, rfl, rfl⟩
                    · have dcol : ¬ (((iw : Nat)) : Int) < (x.t : Int) - (x.f : Int) := by omega
                      have dcol2 := dcol
                      push_cast at dcol2
                      have dcol3 : decide ((((iw : Nat)) : Int) < (x.t : Int) - (x.f : Int)) = false := decide_eq_false dcol
                      push_cast at dcol3
                      obtain ⟨A5, cap5, W5, hrun5, hown5⟩ := append_txt (HK.out.1.below HB2.out) [⟨#[]⟩] 1 rfl #[.string ⟨#[]⟩] rfl (by omega) W2.heap.size rfl (q + 1) rfl (l ++ [⟨#[]⟩]) rfl
                      have HRUN := Lib.hid hrun5
                      have HOWN := Lib.hid hown5
                      have HW5 : Hid (Below W0.heap.size W0 W5) := HOWN.out.2.2.1
                      clear hrun5 hown5
                      go_wp2_with (at_builtin; refine wpList_append_known rfl _ (.tmp 97) 22 rfl _ _ _ _ rfl rfl HRUN.out ?_)
                      go_roundw
                      case rel =>
                        refine ⟨p + 1, q + 1, cap5, A5, l ++ [⟨#[]⟩], by omega, by omega, by omega, rfl, by go_num, HOWN.out, ?_, ?_, ?_, ?_, HW5.out⟩
                        · rw [HX.out.2.2.2.1, List.map_append, List.map_append, HK.out.2.1]
                          congr 1
                          simp [rowF, HX.out.1, byt]
                        · rw [HX.out.2.2.2.1, List.any_append, HK.out.2.2.1]
                          simp [badF, HX.out.1, HX.out.2.1, HIL.out]; omega
                        · intro s hs
                          rcases List.mem_append.1 hs with h' | h'
                          · exact HK.out.2.2.2.1 s h'
                          · simp at h'; subst h'; decide
                        · rw [HBEL.out]; omega
                      case measure => simp [intOf]; omega
                  | false =>
                    go_wp2_with fail
                    refine (refIndent_any b off n c zs x W2 HL.out.1 hnc (by omega) (HR.out.below (below_step (below_step HB0.out HK.out.2.2.2.2.2) HB2.out)) r1 r2 i2 HX.out.2.1).mono ?_
                    rintro e W3 ⟨rfl, hb3⟩
                    obtain ⟨e0, e1, e2⟩ := HC.out W3 (below_step HB2V.out hb3)
                    have HB3 := Lib.hid (below_step HB2.out hb3)
                    have HB3V := Lib.hid (below_step HB2V.out hb3)
                    clear hb3 k0 k1 k3
                    by_cases hic : i2 < iw
                    · have dic : (i2 : Int) < (iw : Int) := by omega
                      have WHYC : Hid (¬ iw ≤ i2) := by show ¬ _; omega
                      have hnx : first + nblg zs iw (ls.drop first) = p := by
                        rw [HK.out.2.2.2.2.1, HX.out.2.2.2.2.2]; simp [blg, HX.out.1, HX.out.2.1, WHYC.out]
                      have HNX := Lib.hid hnx
                      clear hnx
                      go_wp2_with fail
                      refine bodyPost_ret (v := .tuple #[.slice A q cap, .int .i64 (p : Int), .bool true]) (by simp [results, Try.results26, go_sem]) rfl ?_
                      rw [HE.out]
                      simp only []
                      rw [HNX.out, body_some zs ls first _ p HK.out.2.2.1]
                      exact ⟨A, q, cap, l, (HK.out.1.below HB3.out).wider HB0.out, HK.out.2.2.2.1, rfl, HK.out.2.1⟩
                    · have dic : decide (i2 < iw) = false := decide_eq_false hic
                      have dic' : ¬ i2 < iw := hic
                      go_wp2_with fail
                      refine (refStop_any b off n c zs x W3 HL.out.1 hnc hm (by omega) HB.out (HR.out.below (below_step (below_step HB0.out HK.out.2.2.2.2.2) HB3.out)) r1 r2 k2 HX.out.2.2.1).mono ?_
                      rintro e W4 ⟨rfl, hb4⟩
                      obtain ⟨g0, g1, g3⟩ := HC.out W4 (below_step HB3V.out hb4)
                      have HB4 := Lib.hid (below_step HB3.out hb4)
                      clear hb4 e0 e1 e2
                      cases k2 with
                      | true =>
                        have hnx : first + nblg zs iw (ls.drop first) = p := by
                          rw [HK.out.2.2.2.2.1, HX.out.2.2.2.2.2]; simp [blg, HX.out.1, HX.out.2.2.1]
                        have HNX := Lib.hid hnx
                        clear hnx
                        go_wp2_with fail
                        refine bodyPost_ret (v := .tuple #[.slice A q cap, .int .i64 (p : Int), .bool true]) (by simp [results, Try.results26, go_sem]) rfl ?_
                        rw [HE.out]
                        simp only []
                        rw [HNX.out, body_some zs ls first _ p HK.out.2.2.1]
                        exact ⟨A, q, cap, l, (HK.out.1.below HB4.out).wider HB0.out, HK.out.2.2.2.1, rfl, HK.out.2.1⟩
                      | false =>
                        have hbelong : first + nblg zs iw (ls.drop first) = p + (nblg zs iw (ls.drop (p + 1)) + 1) := by
                          rw [HK.out.2.2.2.2.1, HX.out.2.2.2.2.2]
                          have : iw ≤ i2 := by omega
                          simp [blg, HX.out.1, HX.out.2.1, HX.out.2.2.1, this]
                        have HBEL := Lib.hid hbelong
                        clear hbelong
                        have hcl := cont_drop zs x (iw) (by omega)
                        have hcb : Byte ((cont zs x).drop (iw)) := ((HB.out.drop _).take _).drop _
                        obtain ⟨A4, hs4, hA4, hr4⟩ := slice_lh (some ⟨b, off, none⟩) n c (x.f + iw) x.t zs HL.out.1 hnc (fun h => by cases h) (by omega) r2
                        rw [hcl] at hr4
                        have hs4' : ∀ W, (Instr.slice 24 (.slice (some ⟨b, off, none⟩) n c) (some (.int .i64 ((x.f : Int) + (iw : Int)))) (some (.int .i64 (x.t : Int))) none).run Try.prog W = .ok (.slice A4 (x.t - (x.f + iw)) (c - (x.f + iw))) W := fun W => hs4 W
                        have hlen : ((cont zs x).drop (iw)).length = x.t - (x.f + iw) := by rw [← hcl, List.length_take, List.length_drop, HL.out.1]; omega
                        have hcv := run_string_rd W4 A4 (x.t - (x.f + iw)) (c - (x.f + iw)) ((cont zs x).drop (iw)) hlen (hr4 W4 (HR.out.below (below_step (below_step HB0.out HK.out.2.2.2.2.2) HB4.out)))
                        have hby := byt_strOfNums ((cont zs x).drop (iw)) hcb
                        generalize strOfNums ((cont zs x).drop (iw)) = r at *
                        have hrs' : r.size ≤ 100000 := by rw [← byt_len, hby, hlen]; omega
                        obtain ⟨A5, cap5, W5, hrun5, hown5⟩ := append_txt (HK.out.1.below HB4.out) [r] 1 rfl #[.string r] rfl (by omega) W4.heap.size rfl (q + 1) rfl (l ++ [r]) rfl
                        have HBY := Lib.hid hby
                        have HRUN := Lib.hid hrun5
                        have HOWN := Lib.hid hown5
                        have HW5 : Hid (Below W0.heap.size W0 W5) := HOWN.out.2.2.1
                        clear hcl hcb hs4 hA4 hr4 hlen hby hrun5 hown5
                        go_wp2_with (at_builtin; refine wpList_append_known rfl _ (.tmp 122) 22 rfl _ _ _ _ rfl rfl HRUN.out ?_)
                        go_roundw
                        case rel =>
                          refine ⟨p + 1, q + 1, cap5, A5, l ++ [r], by omega, by omega, by omega, rfl, by go_num, HOWN.out, ?_, ?_, ?_, ?_, HW5.out⟩
                          · rw [HX.out.2.2.2.1, List.map_append, List.map_append, HK.out.2.1]
                            congr 1
                            simp [rowF, HX.out.1, HBY.out]
                          · rw [HX.out.2.2.2.1, List.any_append, HK.out.2.2.1]
                            simp [badF, HX.out.1]
                          · intro s hs
                            rcases List.mem_append.1 hs with h' | h'
                            · exact HK.out.2.2.2.1 s h'
                            · simp at h'; subst h'; omega
                          · rw [HBEL.out]; omega
                        case measure => simp [intOf]; omega
                · obtain rfl : p = m := by omega
                  have dp : decide (p < p) = false := decide_eq_false (by omega)
                  have hnx : first + nblg zs iw (ls.drop first) = p := by
                    rw [HK.out.2.2.2.2.1, List.drop_eq_nil_of_le (by rw [HL.out.2]; omega)]; simp [nfill, nblg]
                  have HNX := Lib.hid hnx
                  clear hnx
                  go_wp2_with fail
                  refine bodyPost_ret (v := .tuple #[.slice A q cap, .int .i64 (p : Int), .bool true]) (by simp [results, Try.results26, go_sem]) rfl ?_
                  rw [HE.out]
                  simp only []
                  rw [HNX.out, body_some zs ls first _ p HK.out.2.2.1]
                  exact ⟨A, q, cap, l, HK.out.1.wider HB0.out, HK.out.2.2.2.1, rfl, HK.out.2.1⟩
    · obtain rfl : j = m := by omega
      have dj : decide (j < j) = false := decide_eq_false (by omega)
      have HJ : Hid (first + nfill zs (ls.drop first) = j) := by
        show _ = _
        rw [HK.out.1, List.drop_eq_nil_of_le (by rw [HL.out.2]; omega)]; rfl
      have HBQ := Lib.hid HK.out.2
      clear HK
      obtain ⟨WQ, hWQ⟩ : ∃ x, x = wr := ⟨_, rfl⟩
      subst hWQ
      by_cases hd0 : 0 < dg
      · have dd0 : ((dg : Int) == 0) = false := beq_eq_false_iff_ne.2 (by omega)
        have dd1 : ¬ dg = 0 := by omega
        obtain ⟨col, hcol⟩ : ∃ col, P + dg = col := ⟨_, rfl⟩
        have he := rx_dg zs ls first (P : Int) dg col hd0 (by omega)
        have HE := Lib.hid he
        have hcb : col ≤ 200000 := by omega
        have hci : (P : Int) + (dg : Int) = (col : Int) := by omega
        have HCI := Lib.hid hci
        clear he hcol hci
        go_wp2_with fail
        first | rw [HCI.out] | skip
        clear c3
        go_loopw [16, 17] (fun v i W => ∃ (p q cap : Nat) (A : Option Addr) (l : List ByteArray), first ≤ p ∧ p ≤ j ∧ q ≤ p ∧ v = .slice A q cap ∧ i = .int .i64 (p : Int) ∧
            Hid (OwnT W0 W A q cap l ∧ l.map byt = ((ls.drop first).take (p - first)).map (rowF zs (col)) ∧ ((ls.drop first).take (p - first)).any (badF zs (col)) = false ∧ (∀ s ∈ l, s.size ≤ 1000000) ∧ first + nblg zs col (ls.drop first) = p + nblg zs col (ls.drop p) ∧ Below W0.heap.size W0 W)) (fun _ i _ => j - (intOf i).toNat)
        case atStart => exact ⟨first, 0, 0, none, [], by omega, by omega, by omega, rfl, rfl, OwnT.nil W0 _ HBQ.out, by simp, by simp, by simp, rfl, HBQ.out⟩
        case round =>
          obtain ⟨p, q, cap, A, l, hp, hpm, hqp, rfl, rfl, HK⟩ := hrel
          by_cases hlt2 : p < j
          · have hst2 := nblg_step zs col ls p (by rw [HL.out.2]; exact hlt2)
            have hbw := below_step HB0.out HK.out.2.2.2.2.2
            obtain ⟨bL, offL, hBLX, hbL, hcL⟩ := (HRL.out.below hbw).addr (by rw [HL.out.2]; omega)
            first | subst hBLX | (injection hBLX with hBLX; injection hBLX with hq1 hq2; subst hq1 hq2)
            obtain ⟨f0, f1, f2⟩ := hcL p (by rw [HL.out.2]; exact hlt2)
            obtain ⟨r1, r2⟩ := HV.out p (by rw [HL.out.2]; exact hlt2)
            have htl := take_ln ls first p hp (by rw [HL.out.2]; exact hlt2)
            have hbn := fun nx => body_none zs ls first (col) nx p hp
            have dp : (p : Int) < (j : Int) := by omega
            obtain ⟨g2, hg2⟩ : ∃ g, blkF zs (lnAt ls p) = g := ⟨_, rfl⟩
            obtain ⟨i2, hi2⟩ : ∃ iw, indF zs (lnAt ls p) = iw := ⟨_, rfl⟩
            obtain ⟨k2, hk2⟩ : ∃ mk, dmk zs (lnAt ls p) = mk := ⟨_, rfl⟩
            have hib2 := indF_le zs (lnAt ls p) r1
            rw [hi2] at hib2
            have hbl2 := blk_len zs (lnAt ls p) r1
            rw [hg2, hi2] at hbl2
            obtain ⟨x, hx⟩ : ∃ x, lnAt ls p = x := ⟨_, rfl⟩
            rw [hx] at f0 f1 f2 r1 r2 htl hbn hg2 hi2 hk2 hib2 hbl2 hst2
            have HX := Lib.hid (And.intro hg2 (And.intro hi2 (And.intro hk2 (And.intro htl (And.intro hbn hst2)))))
            clear hg2 hi2 hk2 htl hbn hst2 hcL hx hbw
            go_wp2_with fail
            obtain ⟨V, hV⟩ : ∃ V, wr.alloc (.cells #[.int .i64 (x.f : Int), .int .i64 (x.t : Int), .int .i64 (x.n : Int)] 73) = V := ⟨_, rfl⟩
            have hvg : V.heap[wr.heap.size]? = some (.cells #[.int .i64 (x.f : Int), .int .i64 (x.t : Int), .int .i64 (x.n : Int)] 73) := by rw [← hV]; exact heap_alloc_new _ _
            have hvs : wr.heap.size < V.heap.size := by rw [← hV]; simp
            have HVB : Hid (Below wr.heap.size wr V) := by rw [← hV]; exact (Below.refl _ _).alloc (Nat.le_refl _) _
            have HC : Hid (∀ X, Below V.heap.size V X → X.cell? ⟨wr.heap.size, 0, none⟩ = some (.int .i64 (x.f : Int)) ∧ X.cell? ⟨wr.heap.size, 1, none⟩ = some (.int .i64 (x.t : Int)) ∧ X.cell? ⟨wr.heap.size, 2, none⟩ = some (.int .i64 (x.n : Int))) := fun X hX => by
              have := (hX.block _ hvs).trans hvg
              refine ⟨?_, ?_, ?_⟩ <;> simp [World.cell?, this]
            rw [hV]
            clear hV hvg f0 f1 f2
            refine (refBlank_any b off n c zs x V HL.out.1 hnc (by omega) (HR.out.below (below_step (below_step HB0.out HK.out.2.2.2.2.2) HVB.out)) r1 r2 g2 HX.out.1).mono ?_
            rintro e W2 ⟨rfl, hb2'⟩
            obtain ⟨k0, k1, k3⟩ := HC.out W2 hb2'
            have HB2 := Lib.hid (below_step HVB.out hb2')
            have HB2V := Lib.hid hb2'
            clear hb2'
            cases g2 with
            | true =>
              have hil : i2 = x.t - x.f := hbl2 rfl
              have HIL := Lib.hid hil
              have hbelong : first + nblg zs col (ls.drop first) = p + (nblg zs col (ls.drop (p + 1)) + 1) := by
                rw [HK.out.2.2.2.2.1, HX.out.2.2.2.2.2]; simp [blg, HX.out.1]
              have HBEL := Lib.hid hbelong
              clear hbelong hil
              by_cases hbad : col < x.t - x.f
              · have dcol : (((col : Nat)) : Int) < (x.t : Int) - (x.f : Int) := by omega
                have dcol2 := dcol
                push_cast at dcol2
                have hnone := HX.out.2.2.2.2.1 (first + nblg zs col (ls.drop first)) (by rw [HBEL.out]; omega) (by rw [HL.out.2]; exact hlt2) (by simp [badF, HX.out.1, HX.out.2.1, HIL.out, hbad])
                have HNO := Lib.hid hnone
                clear hnone
                go_wp2_with fail
                refine bodyPost_ret (v := .tuple #[.slice none 0 0, .int .i64 0, .bool false]) (by simp [results, Try.results26, go_sem]) rfl ?_
                rw [HE.out]
                simp only []
                rw [HNO.out]
                exact ⟨none, 0, 0, [], OwnT.nil w W2 (below_step (below_step HB0.out HK.out.2.2.2.2.2) HB2.out), by simp, rfl, rfl, rfl, rfl, rfl⟩
              · have dcol : ¬ (((col : Nat)) : Int) < (x.t : Int) - (x.f : Int) := by omega
                have dcol2 := dcol
                push_cast at dcol2
                have dcol3 : decide ((((col : Nat)) : Int) < (x.t : Int) - (x.f : Int)) = false := decide_eq_false dcol
                push_cast at dcol3
                obtain ⟨A5, cap5, W5, hrun5, hown5⟩ := append_txt (HK.out.1.below HB2.out) [⟨#[]⟩] 1 rfl #[.string ⟨#[]⟩] rfl (by omega) W2.heap.size rfl (q + 1) rfl (l ++ [⟨#[]⟩]) rfl
                have HRUN := Lib.hid hrun5
                have HOWN := Lib.hid hown5
                have HW5 : Hid (Below W0.heap.size W0 W5) := HOWN.out.2.2.1
                clear hrun5 hown5
                go_wp2_with (at_builtin; refine wpList_append_known rfl _ (.tmp 97) 22 rfl _ _ _ _ rfl rfl HRUN.out ?_)
                go_roundw
                case rel =>
                  refine ⟨p + 1, q + 1, cap5, A5, l ++ [⟨#[]⟩], by omega, by omega, by omega, rfl, by go_num, HOWN.out, ?_, ?_, ?_, ?_, HW5.out⟩
                  · rw [HX.out.2.2.2.1, List.map_append, List.map_append, HK.out.2.1]
                    congr 1
                    simp [rowF, HX.out.1, byt]
                  · rw [HX.out.2.2.2.1, List.any_append, HK.out.2.2.1]
                    simp [badF, HX.out.1, HX.out.2.1, HIL.out]; omega
                  · intro s hs
                    rcases List.mem_append.1 hs with h' | h'
                    · exact HK.out.2.2.2.1 s h'
                    · simp at h'; subst h'; decide
                  · rw [HBEL.out]; omega
                case measure => simp [intOf]; omega
            | false =>
              go_wp2_with fail
              refine (refIndent_any b off n c zs x W2 HL.out.1 hnc (by omega) (HR.out.below (below_step (below_step HB0.out HK.out.2.2.2.2.2) HB2.out)) r1 r2 i2 HX.out.2.1).mono ?_
              rintro e W3 ⟨rfl, hb3⟩
              obtain ⟨e0, e1, e2⟩ := HC.out W3 (below_step HB2V.out hb3)
              have HB3 := Lib.hid (below_step HB2.out hb3)
              have HB3V := Lib.hid (below_step HB2V.out hb3)
              clear hb3 k0 k1 k3
              by_cases hic : i2 < col
              · have dic : (i2 : Int) < (col : Int) := by omega
                have WHYC : Hid (¬ col ≤ i2) := by show ¬ _; omega
                have hnx : first + nblg zs col (ls.drop first) = p := by
                  rw [HK.out.2.2.2.2.1, HX.out.2.2.2.2.2]; simp [blg, HX.out.1, HX.out.2.1, WHYC.out]
                have HNX := Lib.hid hnx
                clear hnx
                go_wp2_with fail
                refine bodyPost_ret (v := .tuple #[.slice A q cap, .int .i64 (p : Int), .bool true]) (by simp [results, Try.results26, go_sem]) rfl ?_
                rw [HE.out]
                simp only []
                rw [HNX.out, body_some zs ls first _ p HK.out.2.2.1]
                exact ⟨A, q, cap, l, (HK.out.1.below HB3.out).wider HB0.out, HK.out.2.2.2.1, rfl, HK.out.2.1⟩
              · have dic : decide (i2 < col) = false := decide_eq_false hic
                have dic' : ¬ i2 < col := hic
                go_wp2_with fail
                refine (refStop_any b off n c zs x W3 HL.out.1 hnc hm (by omega) HB.out (HR.out.below (below_step (below_step HB0.out HK.out.2.2.2.2.2) HB3.out)) r1 r2 k2 HX.out.2.2.1).mono ?_
                rintro e W4 ⟨rfl, hb4⟩
                obtain ⟨g0, g1, g3⟩ := HC.out W4 (below_step HB3V.out hb4)
                have HB4 := Lib.hid (below_step HB3.out hb4)
                clear hb4 e0 e1 e2
                cases k2 with
                | true =>
                  have hnx : first + nblg zs col (ls.drop first) = p := by
                    rw [HK.out.2.2.2.2.1, HX.out.2.2.2.2.2]; simp [blg, HX.out.1, HX.out.2.2.1]
                  have HNX := Lib.hid hnx
                  clear hnx
                  go_wp2_with fail
                  refine bodyPost_ret (v := .tuple #[.slice A q cap, .int .i64 (p : Int), .bool true]) (by simp [results, Try.results26, go_sem]) rfl ?_
                  rw [HE.out]
                  simp only []
                  rw [HNX.out, body_some zs ls first _ p HK.out.2.2.1]
                  exact ⟨A, q, cap, l, (HK.out.1.below HB4.out).wider HB0.out, HK.out.2.2.2.1, rfl, HK.out.2.1⟩
                | false =>
                  have hbelong : first + nblg zs col (ls.drop first) = p + (nblg zs col (ls.drop (p + 1)) + 1) := by
                    rw [HK.out.2.2.2.2.1, HX.out.2.2.2.2.2]
                    have : col ≤ i2 := by omega
                    simp [blg, HX.out.1, HX.out.2.1, HX.out.2.2.1, this]
                  have HBEL := Lib.hid hbelong
                  clear hbelong
                  have hcl := cont_drop zs x (col) (by omega)
                  have hcb : Byte ((cont zs x).drop (col)) := ((HB.out.drop _).take _).drop _
                  obtain ⟨A4, hs4, hA4, hr4⟩ := slice_lh (some ⟨b, off, none⟩) n c (x.f + col) x.t zs HL.out.1 hnc (fun h => by cases h) (by omega) r2
                  rw [hcl] at hr4
                  have hs4' : ∀ W, (Instr.slice 24 (.slice (some ⟨b, off, none⟩) n c) (some (.int .i64 ((x.f : Int) + (col : Int)))) (some (.int .i64 (x.t : Int))) none).run Try.prog W = .ok (.slice A4 (x.t - (x.f + col)) (c - (x.f + col))) W := fun W => hs4 W
                  have hlen : ((cont zs x).drop (col)).length = x.t - (x.f + col) := by rw [← hcl, List.length_take, List.length_drop, HL.out.1]; omega
                  have hcv := run_string_rd W4 A4 (x.t - (x.f + col)) (c - (x.f + col)) ((cont zs x).drop (col)) hlen (hr4 W4 (HR.out.below (below_step (below_step HB0.out HK.out.2.2.2.2.2) HB4.out)))
                  have hby := byt_strOfNums ((cont zs x).drop (col)) hcb
                  generalize strOfNums ((cont zs x).drop (col)) = r at *
                  have hrs' : r.size ≤ 100000 := by rw [← byt_len, hby, hlen]; omega
                  obtain ⟨A5, cap5, W5, hrun5, hown5⟩ := append_txt (HK.out.1.below HB4.out) [r] 1 rfl #[.string r] rfl (by omega) W4.heap.size rfl (q + 1) rfl (l ++ [r]) rfl
                  have HBY := Lib.hid hby
                  have HRUN := Lib.hid hrun5
                  have HOWN := Lib.hid hown5
                  have HW5 : Hid (Below W0.heap.size W0 W5) := HOWN.out.2.2.1
                  clear hcl hcb hs4 hA4 hr4 hlen hby hrun5 hown5
                  go_wp2_with (at_builtin; refine wpList_append_known rfl _ (.tmp 122) 22 rfl _ _ _ _ rfl rfl HRUN.out ?_)
                  go_roundw
                  case rel =>
                    refine ⟨p + 1, q + 1, cap5, A5, l ++ [r], by omega, by omega, by omega, rfl, by go_num, HOWN.out, ?_, ?_, ?_, ?_, HW5.out⟩
                    · rw [HX.out.2.2.2.1, List.map_append, List.map_append, HK.out.2.1]
                      congr 1
                      simp [rowF, HX.out.1, HBY.out]
                    · rw [HX.out.2.2.2.1, List.any_append, HK.out.2.2.1]
                      simp [badF, HX.out.1]
                    · intro s hs
                      rcases List.mem_append.1 hs with h' | h'
                      · exact HK.out.2.2.2.1 s h'
                      · simp at h'; subst h'; omega
                    · rw [HBEL.out]; omega
                  case measure => simp [intOf]; omega
          · obtain rfl : p = j := by omega
            have dp : decide (p < p) = false := decide_eq_false (by omega)
            have hnx : first + nblg zs col (ls.drop first) = p := by
              rw [HK.out.2.2.2.2.1, List.drop_eq_nil_of_le (by rw [HL.out.2]; omega)]; simp [nfill, nblg]
            have HNX := Lib.hid hnx
            clear hnx
            go_wp2_with fail
            refine bodyPost_ret (v := .tuple #[.slice A q cap, .int .i64 (p : Int), .bool true]) (by simp [results, Try.results26, go_sem]) rfl ?_
            rw [HE.out]
            simp only []
            rw [HNX.out, body_some zs ls first _ p HK.out.2.2.1]
            exact ⟨A, q, cap, l, HK.out.1.wider HB0.out, HK.out.2.2.2.1, rfl, HK.out.2.1⟩
      · have HDG : Hid (dg = 0) := by show dg = 0; omega
        have dd0 : ((dg : Int) == 0) = true := beq_iff_eq.2 (by omega)
        have he : refExt zs ls first (P : Int) dg = (P + 1, first + nfill zs (ls.drop first)) := by
          rw [HDG.out]; exact rx_only zs ls first (P : Int) j (P) HJ.out (by omega) (by unfold onlyF; rw [HL.out.2]; simp)
        have HE := Lib.hid he
        clear he
        have deq : decide ((j : Int) ≤ (j : Int)) = true := decide_eq_true (by omega)
        have deq1 : j ≤ j := by omega
        go_wp2_with fail
        clear c3
        go_loopw [16, 17] (fun v i W => ∃ (p q cap : Nat) (A : Option Addr) (l : List ByteArray), first ≤ p ∧ p ≤ j ∧ q ≤ p ∧ v = .slice A q cap ∧ i = .int .i64 (p : Int) ∧
            Hid (OwnT W0 W A q cap l ∧ l.map byt = ((ls.drop first).take (p - first)).map (rowF zs ((P + 1))) ∧ ((ls.drop first).take (p - first)).any (badF zs ((P + 1))) = false ∧ (∀ s ∈ l, s.size ≤ 1000000) ∧ first + nfill zs (ls.drop first) = p + nfill zs (ls.drop p) ∧ Below W0.heap.size W0 W)) (fun _ i _ => j - (intOf i).toNat)
        case atStart => exact ⟨first, 0, 0, none, [], by omega, by omega, by omega, rfl, rfl, OwnT.nil W0 _ HBQ.out, by simp, by simp, by simp, rfl, HBQ.out⟩
        case round =>
          obtain ⟨p, q, cap, A, l, hp, hpm, hqp, rfl, rfl, HK⟩ := hrel
          by_cases hlt2 : p < j
          · have hst2 := nfill_step zs ls p (by rw [HL.out.2]; exact hlt2)
            have hbw := below_step HB0.out HK.out.2.2.2.2.2
            obtain ⟨bL, offL, hBLX, hbL, hcL⟩ := (HRL.out.below hbw).addr (by rw [HL.out.2]; omega)
            first | subst hBLX | (injection hBLX with hBLX; injection hBLX with hq1 hq2; subst hq1 hq2)
            obtain ⟨f0, f1, f2⟩ := hcL p (by rw [HL.out.2]; exact hlt2)
            obtain ⟨r1, r2⟩ := HV.out p (by rw [HL.out.2]; exact hlt2)
            have htl := take_ln ls first p hp (by rw [HL.out.2]; exact hlt2)
            have hbn := fun nx => body_none zs ls first ((P + 1)) nx p hp
            have dp : (p : Int) < (j : Int) := by omega
            obtain ⟨g2, hg2⟩ : ∃ g, blkF zs (lnAt ls p) = g := ⟨_, rfl⟩
            obtain ⟨i2, hi2⟩ : ∃ iw, indF zs (lnAt ls p) = iw := ⟨_, rfl⟩
            obtain ⟨k2, hk2⟩ : ∃ mk, dmk zs (lnAt ls p) = mk := ⟨_, rfl⟩
            have hib2 := indF_le zs (lnAt ls p) r1
            rw [hi2] at hib2
            have hbl2 := blk_len zs (lnAt ls p) r1
            rw [hg2, hi2] at hbl2
            obtain ⟨x, hx⟩ : ∃ x, lnAt ls p = x := ⟨_, rfl⟩
            rw [hx] at f0 f1 f2 r1 r2 htl hbn hg2 hi2 hk2 hib2 hbl2 hst2
            have HX := Lib.hid (And.intro hg2 (And.intro hi2 (And.intro hk2 (And.intro htl (And.intro hbn hst2)))))
            clear hg2 hi2 hk2 htl hbn hst2 hcL hx hbw
            go_wp2_with fail
            obtain ⟨V, hV⟩ : ∃ V, wr.alloc (.cells #[.int .i64 (x.f : Int), .int .i64 (x.t : Int), .int .i64 (x.n : Int)] 73) = V := ⟨_, rfl⟩
            have hvg : V.heap[wr.heap.size]? = some (.cells #[.int .i64 (x.f : Int), .int .i64 (x.t : Int), .int .i64 (x.n : Int)] 73) := by rw [← hV]; exact heap_alloc_new _ _
            have hvs : wr.heap.size < V.heap.size := by rw [← hV]; simp
            have HVB : Hid (Below wr.heap.size wr V) := by rw [← hV]; exact (Below.refl _ _).alloc (Nat.le_refl _) _
            have HC : Hid (∀ X, Below V.heap.size V X → X.cell? ⟨wr.heap.size, 0, none⟩ = some (.int .i64 (x.f : Int)) ∧ X.cell? ⟨wr.heap.size, 1, none⟩ = some (.int .i64 (x.t : Int)) ∧ X.cell? ⟨wr.heap.size, 2, none⟩ = some (.int .i64 (x.n : Int))) := fun X hX => by
              have := (hX.block _ hvs).trans hvg
              refine ⟨?_, ?_, ?_⟩ <;> simp [World.cell?, this]
            rw [hV]
            clear hV hvg f0 f1 f2
            refine (refBlank_any b off n c zs x V HL.out.1 hnc (by omega) (HR.out.below (below_step (below_step HB0.out HK.out.2.2.2.2.2) HVB.out)) r1 r2 g2 HX.out.1).mono ?_
            rintro e W2 ⟨rfl, hb2'⟩
            obtain ⟨k0, k1, k3⟩ := HC.out W2 hb2'
            have HB2 := Lib.hid (below_step HVB.out hb2')
            have HB2V := Lib.hid hb2'
            clear hb2'
            cases g2 with
            | true =>
              have hil : i2 = x.t - x.f := hbl2 rfl
              have HIL := Lib.hid hil
              have hbelong : first + nfill zs (ls.drop first) = p + (nfill zs (ls.drop (p + 1)) + 1) := by
                rw [HK.out.2.2.2.2.1, HX.out.2.2.2.2.2]; simp [blg, HX.out.1]
              have HBEL := Lib.hid hbelong
              clear hbelong hil
              by_cases hbad : (P + 1) < x.t - x.f
              · have dcol : ((((P + 1) : Nat)) : Int) < (x.t : Int) - (x.f : Int) := by omega
                have dcol2 := dcol
                push_cast at dcol2
                have hnone := HX.out.2.2.2.2.1 (first + nfill zs (ls.drop first)) (by rw [HBEL.out]; omega) (by rw [HL.out.2]; exact hlt2) (by simp [badF, HX.out.1, HX.out.2.1, HIL.out, hbad])
                have HNO := Lib.hid hnone
                clear hnone
                go_wp2_with fail
                refine bodyPost_ret (v := .tuple #[.slice none 0 0, .int .i64 0, .bool false]) (by simp [results, Try.results26, go_sem]) rfl ?_
                rw [HE.out]
                simp only []
                rw [HNO.out]
                exact ⟨none, 0, 0, [], OwnT.nil w W2 (below_step (below_step HB0.out HK.out.2.2.2.2.2) HB2.out), by simp, rfl, rfl, rfl, rfl, rfl⟩
              · have dcol : ¬ ((((P + 1) : Nat)) : Int) < (x.t : Int) - (x.f : Int) := by omega
                have dcol2 := dcol
                push_cast at dcol2
                have dcol3 : decide (((((P + 1) : Nat)) : Int) < (x.t : Int) - (x.f : Int)) = false := decide_eq_false dcol
                push_cast at dcol3
                obtain ⟨A5, cap5, W5, hrun5, hown5⟩ := append_txt (HK.out.1.below HB2.out) [⟨#[]⟩] 1 rfl #[.string ⟨#[]⟩] rfl (by omega) W2.heap.size rfl (q + 1) rfl (l ++ [⟨#[]⟩]) rfl
                have HRUN := Lib.hid hrun5
                have HOWN := Lib.hid hown5
                have HW5 : Hid (Below W0.heap.size W0 W5) := HOWN.out.2.2.1
                clear hrun5 hown5
                go_wp2_with (at_builtin; refine wpList_append_known rfl _ (.tmp 97) 22 rfl _ _ _ _ rfl rfl HRUN.out ?_)
                go_roundw
                case rel =>
                  refine ⟨p + 1, q + 1, cap5, A5, l ++ [⟨#[]⟩], by omega, by omega, by omega, rfl, by go_num, HOWN.out, ?_, ?_, ?_, ?_, HW5.out⟩
                  · rw [HX.out.2.2.2.1, List.map_append, List.map_append, HK.out.2.1]
                    congr 1
                    simp [rowF, HX.out.1, byt]
                  · rw [HX.out.2.2.2.1, List.any_append, HK.out.2.2.1]
                    simp [badF, HX.out.1, HX.out.2.1, HIL.out]; omega
                  · intro s hs
                    rcases List.mem_append.1 hs with h' | h'
                    · exact HK.out.2.2.2.1 s h'
                    · simp at h'; subst h'; decide
                  · rw [HBEL.out]; omega
                case measure => simp [intOf]; omega
            | false =>
              have hnx : first + nfill zs (ls.drop first) = p := by
                rw [HK.out.2.2.2.2.1, HX.out.2.2.2.2.2]; simp [HX.out.1]
              have HNX := Lib.hid hnx
              clear hnx
              go_wp2_with fail
              refine bodyPost_ret (v := .tuple #[.slice A q cap, .int .i64 (p : Int), .bool true]) (by simp [results, Try.results26, go_sem]) rfl ?_
              rw [HE.out]
              simp only []
              rw [HNX.out, body_some zs ls first _ p HK.out.2.2.1]
              exact ⟨A, q, cap, l, (HK.out.1.below HB2.out).wider HB0.out, HK.out.2.2.2.1, rfl, HK.out.2.1⟩
          · obtain rfl : p = j := by omega
            have dp : decide (p < p) = false := decide_eq_false (by omega)
            have hnx : first + nfill zs (ls.drop first) = p := by
              rw [HK.out.2.2.2.2.1, List.drop_eq_nil_of_le (by rw [HL.out.2]; omega)]; simp [nfill, nblg]
            have HNX := Lib.hid hnx
            clear hnx
            go_wp2_with fail
            refine bodyPost_ret (v := .tuple #[.slice A q cap, .int .i64 (p : Int), .bool true]) (by simp [results, Try.results26, go_sem]) rfl ?_
            rw [HE.out]
            simp only []
            rw [HNX.out, body_some zs ls first _ p HK.out.2.2.1]
            exact ⟨A, q, cap, l, HK.out.1.wider HB0.out, HK.out.2.2.2.1, rfl, HK.out.2.1⟩


theorem refBody_any (b off : Nat) (n c : Nat) (zs : List Int) (B : Option Addr) (m d : Nat) (ls : List Ln) (first : Nat) (parent : Int) (h : Hd) (w : World) (hl : zs.length = n) (hnc : n ≤ c) (hm : c ≤ 9223372036854775807) (hn : n ≤ 100000) (hb : Byte zs) (hr : RdB w (some ⟨b, off, none⟩) zs)
    (hls : ls.length = m) (hmd : m ≤ d) (hm1 : m ≤ 100000) (hrl : RdL w B ls) (hv : Lies n ls) (hf : first ≤ m) (hp1 : -1 ≤ parent) (hp2 : parent ≤ 100000) (hdg : h.dg ≤ 100000) :
    Calls Try.prog 26 #[.slice (some ⟨b, off, none⟩) n c, .slice B m d, .int .i64 (first : Int), .int .i64 parent, hdV h] w (BodyP (bodyF zs ls first (refExt zs ls first parent h.dg).1 (refExt zs ls first parent h.dg).2) w) := by
  obtain ⟨fo, st, ke, dg⟩ := h
  by_cases h0 : parent < 0
  · obtain rfl : parent = -1 := by omega
    exact refBody_neg b off n c zs B m d ls first 0 fo st ke dg w hl hnc hm hn hb hr hls hmd hm1 hrl hv hf (by omega) hdg
  · obtain ⟨P, rfl⟩ : ∃ P : Nat, parent = (P : Int) := ⟨parent.toNat, by omega⟩
    exact refBody_pos b off n c zs B m d ls first P fo st ke dg w hl hnc hm hn hb hr hls hmd hm1 hrl hv hf (by omega) hdg
end Go.Proofs.Ytodnfdkcmhiljaa
