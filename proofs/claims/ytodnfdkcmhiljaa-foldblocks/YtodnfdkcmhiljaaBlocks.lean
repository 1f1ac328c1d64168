/-
  Proved: the law 'scholium/scholiumlaw07.FoldBlocks' returns true for every input, and every argument reads as it did before. No conditions.
-/
import Derived.Test.YtodnfdkcmhiljaaRows
import Derived.Test.YtodnfdkcmhiljaaFdOpen
import Derived.Test.YtodnfdkcmhiljaaFdBlk
import Derived.Test.YtodnfdkcmhiljaaKeep
import Derived.WalkKit
import Derived.ProofKit
import Derived.OpenShut
import Derived.ShutString
import Derived.ChangeOld
import Derived.Below
namespace Go.Proofs.Ytodnfdkcmhiljaa.foldBlocks
open Go.ChangeShapes Go.WideShapes Go.ChangeAt Go.RowKit
open Go.ChangeMaps (open_string shut_string)
set_option linter.unusedVariables false

theorem own : ownKnob Try.prog.godebug = none := by kernel_rfl
theorem laidOut : laidOutB Try.prog = true := by kernel_rfl

/-- A slice of integers that came in. -/
def IsRow (k : IntKind) (w : World) (a : Option Addr) (len cap : Nat) (zs : List Int) : Prop :=
  (a = none ∧ len = 0 ∧ cap = 0 ∧ zs = []) ∨
  ∃ x, a = some x ∧ len ≤ cap ∧ cap ≤ maxLen ∧ zs.length = cap ∧ (∀ i, i < zs.length → w.cell? (x.add i) = some (.int k (zs.getD i 0))) ∧ ∀ n ∈ zs, (Lit.int k n).wf = true

/-- Two rows of texts with the same bytes are the same texts. -/
theorem rows_inj : ∀ (l m : List ByteArray), l.map byt = m.map byt → l = m := by
  intro l
  induction l with
  | nil => intro m h; cases m with
    | nil => rfl
    | cons a t => simp at h
  | cons x t ih =>
    intro m h
    cases m with
    | nil => simp at h
    | cons a r =>
      simp only [List.map_cons, List.cons.injEq] at h
      rw [byt_inj h.1, ih r h.2]

def brL (cr : Bool) : List Int := if cr = true then [13, 10] else [10]
theorem good_nil : Good [] := ⟨by simp, .inl rfl⟩
theorem good_more (t : List Int) (z : Int) (h : Good t) (h1 : z ≠ 10) (h2 : z ≠ 13) (h3 : z ≠ 32 ∨ t ≠ []) : Good (t ++ [z]) := by
  refine ⟨?_, .inr ?_⟩
  · intro y hy
    rcases List.mem_append.1 hy with g | g
    · exact h.1 y g
    · simp at g; subst g; exact ⟨h1, h2⟩
  · cases t with
    | nil => rcases h3 with h3 | h3; simpa using h3; exact absurd rfl h3
    | cons a r => have := h.2.resolve_left (by simp); simpa using this
theorem good_take (t : List Int) (k : Nat) (h : Good t) : Good (t.take k) := by
  refine ⟨fun z hz => h.1 z (List.mem_of_mem_take hz), ?_⟩
  cases k with
  | zero => exact .inl rfl
  | succ k =>
    cases t with
    | nil => exact .inl rfl
    | cons a r => exact .inr (by have := h.2.resolve_left (by simp); simpa using this)
theorem good_x (t : List Int) (h : Good t) : Good (120 :: t) := ⟨by intro z hz; simp at hz; rcases hz with rfl | hz; omega; exact h.1 z hz, .inr (by simp)⟩
/-- How long a text in a slot is: for a loop's measure. -/
def lenS : Value → Nat | .string s => s.size | _ => 0
/-- What stands of the rows. -/
def BlkAt (w W : World) (A : Option Addr) (m cap i col : Nat) (br : List Int) (u : ByteArray) (l : List ByteArray) : Prop :=
  OwnT w W A m cap l ∧ m = i ∧ byt u = encB col br (l.map byt) ∧ (∀ s ∈ l, Good (byt s) ∧ s.size ≤ 13) ∧ (0 < i → (l.map byt).getD 0 [] ≠ [])

set_option maxHeartbeats 8000000 in
set_option maxRecDepth 100000 in
theorem walk (a0 : Option Addr) (len0 cap0 : Nat) (z0 : List ByteArray) (a1 : Int) (a2 : Int) (a3 : Bool) (w : World) (w0 : IsTxs w a0 len0 cap0 z0) (w1 : (Lit.int .i64 a1).wf = true) (w2 : (Lit.int .i64 a2).wf = true) :
    Calls Try.prog 5 #[.slice a0 len0 cap0, .int .i64 a1, .int .i64 a2, .bool a3] w fun e w' => e = .returned (.bool true) ∧ Below w.heap.size w w' := by
  have HT := Lib.hid w0
  have hlc : len0 ≤ cap0 := w0.2.2.2.1
  have hcm : cap0 ≤ 9223372036854775807 := w0.2.2.2.2.1
  have hb1 := bounds_i64 w1
  have hb2 := bounds_i64 w2
  clear w0 w1 w2
  go_enter Try.func5, Try.ntmps5
  go_wp2_with fail
  refine (within_nat a1 5 w (by omega) (by omega) hb1).mono ?_
  rintro e w' ⟨par, hp, rfl, rfl⟩
  obtain ⟨pa, hpa⟩ : ∃ pa : Int, (par : Int) - 1 = pa := ⟨_, rfl⟩
  have hpa1 : -1 ≤ pa := by omega
  have hpa2 : pa ≤ 3 := by omega
  have HPA := Lib.hid hpa
  clear hpa
  go_wp2_with fail
  rw [HPA.out]
  refine (within_nat a2 3 w (by omega) (by omega) hb2).mono ?_
  rintro e w' ⟨mo, hmo, rfl, rfl⟩
  obtain ⟨base, hbase⟩ : ∃ base, (max pa 0).toNat = base := ⟨_, rfl⟩
  obtain ⟨col, hcol⟩ : ∃ col, base + 1 + mo = col := ⟨_, rfl⟩
  have hmx : max pa 0 = (base : Int) := by omega
  have hci : (base : Int) + 1 + (mo : Int) = (col : Int) := by omega
  have hcb : col ≤ 6 := by omega
  have hc1 : 1 ≤ col := by omega
  have hbc : base < col := by omega
  have HCI := Lib.hid (And.intro hmx hci)
  have HBA := Lib.hid hbase
  clear hmx hci hbase hcol
  go_upto_if 36 with fail
  rw [HCI.out.1, HCI.out.2]
  go_cut [10] (fun s W => ∃ B : ByteArray, s = .string B ∧ W = w ∧ B.size ≤ 2 ∧ Hid (byt B = brL a3))
  case first =>
    cases a3 with
    | false =>
      go_wp2_with fail
      go_meet
      exact ⟨⟨#[10]⟩, rfl, rfl, by decide, rfl⟩
    | true =>
      go_wp2_with fail
      go_meet
      exact ⟨⟨#[13, 10]⟩, rfl, rfl, by decide, rfl⟩
  case rest =>
    obtain ⟨B, rfl, rfl, hBs, HBR⟩ := hcut
    go_wp2_with fail
    go_loop [11, 12] (fun s i => ∃ (j : Nat) (u : ByteArray), j ≤ col ∧ s = .string u ∧ i = .int .i64 (j : Int) ∧ u.size ≤ j ∧ Hid (byt u = List.replicate j 32)) (fun _ i => col - (intOf i).toNat)
    case atStart => exact ⟨0, ⟨#[]⟩, by omega, rfl, rfl, by decide, rfl⟩
    case round =>
      obtain ⟨j, inS, hj, rfl, rfl, hins, HIN⟩ := hrel
      by_cases hlt : j < col
      · have dj : (j : Int) < (col : Int) := by omega
        go_wp2_with fail
        go_round
        case rel =>
          refine ⟨j + 1, inS ++ ⟨#[32]⟩, by omega, rfl, by go_num, ?_, ?_⟩
          · rw [ByteArray.size_append]; show inS.size + 1 ≤ _; omega
          · show byt _ = _
            rw [byt_append, HIN.out, List.replicate_succ']; rfl
        case measure => simp [intOf]; omega
      · obtain rfl : col = j := by omega
        have dj : decide (col < col) = false := decide_eq_false (by omega)
        go_wp2_with fail
        clear dj
        go_loopw [13, 14, 15] (fun v s i W => ∃ (k m cap : Nat) (A : Option Addr) (u2 : ByteArray) (l : List ByteArray), k ≤ 6 ∧ k ≤ len0 ∧ m ≤ k ∧ v = .slice A m cap ∧ s = .string u2 ∧ i = .int .i64 (k : Int) ∧ u2.size ≤ k * 30 ∧ Hid (BlkAt wc W A m cap k col (brL a3) u2 l)) (fun _ _ i _ => 6 - (intOf i).toNat)
        case atStart => exact ⟨0, 0, 0, none, ⟨#[]⟩, [], by omega, by omega, by omega, rfl, rfl, rfl, by decide, OwnT.nil wc wc (Below.refl _ _), rfl, rfl, by simp, fun h => by omega⟩
        case round =>
          obtain ⟨k, m, cap, A, u2, l, hk6, hkl, hmk, rfl, rfl, rfl, hus2, HK⟩ := hrel
          by_cases hlt : k < 6 ∧ k < len0
          · obtain ⟨hk1, hk2⟩ := hlt
            obtain ⟨b, off, rfl, hc⟩ := HT.out.at_ (by omega)
            obtain ⟨s, hs, hcell0⟩ := hc k hk2
            have hcell := cell_keep HK.out.1.2.2.1 hcell0
            have d1 : (k : Int) < (len0 : Int) := by omega
            have d2 : (k : Int) < 6 := by omega
            clear hc hcell0
            go_wp2_with fail
            refine (text_any s 12 _ (by omega) hs).mono ?_
            rintro e w' ⟨t, _, ht, rfl, rfl⟩
            obtain ⟨cap3, W1, hrun3, hle3, hmax3, hrd3, hbel3⟩ := bytes_of t (by omega) wr
            have HB3 := Lib.hid hbel3
            have HRD3 := Lib.hid hrd3
            clear hrd3 hbel3 hcell
            go_wp2_with fail
            clear hrun3
            have HR : Hid (∀ q, q < t.size → ∀ W, Below W1.heap.size W1 W → W.cell? ⟨wr.heap.size, q, none⟩ = some (.int .u8 ((byt t).getD q 0)) ∧ 0 ≤ (byt t).getD q 0 ∧ (byt t).getD q 0 < 256) := by
              intro q hq W hW
              have hl : (byt t).length = t.size := byt_len t
              obtain ⟨b, off, e, hc⟩ := (HRD3.out.below hW).addr (by rw [hl]; omega)
              injection e with e
              injection e with e1 e2
              subst e1 e2
              have := hc q (by rw [hl]; exact hq)
              rw [Nat.zero_add] at this
              exact ⟨this, (byt_byte t).at_ (by rw [hl]; exact hq)⟩
            obtain ⟨wo, hwo⟩ : ∃ x, x = wr := ⟨_, rfl⟩
            subst hwo
            go_loopw [16, 61] (fun s i W => ∃ (q : Nat) (p : ByteArray), q ≤ t.size ∧ s = .string p ∧ i = .int .i64 (q : Int) ∧ p.size ≤ q ∧ Hid (Good (byt p) ∧ Below W1.heap.size W1 W)) (fun _ i _ => t.size - (intOf i).toNat)
            case atStart => exact ⟨0, ⟨#[]⟩, by omega, rfl, rfl, by decide, good_nil, Below.refl _ _⟩
            case round =>
              obtain ⟨q, p, hq, rfl, rfl, hps, HP⟩ := hrel
              by_cases hqt : q < t.size
              · obtain ⟨hcq, hz1, hz2⟩ := HR.out q hqt wr HP.out.2
                have dq : (q : Int) < (t.size : Int) := by omega
                generalize (byt t).getD q 0 = z at *
                have hcv := run_string_rd (wr.alloc (.cells #[.int .u8 z] 5)) (some ⟨wr.heap.size, 0, none⟩) 1 1 [z] rfl (RdB.new rfl (cellsB_at (zs := [z])))
                have hbz : byt (strOfNums [z]) = [z] := byt_strOfNums _ (by intro y hy; simp at hy; omega)
                generalize strOfNums [z] = r at *
                have hrs : r.size ≤ 1 := by have := byt_len r; rw [hbz] at this; simp at this; omega
                have HZ := Lib.hid hbz
                clear hbz
                by_cases z10 : z = 10
                · subst z10
                  go_wp2_with fail
                  go_roundw
                  case rel => exact ⟨q + 1, p, by omega, rfl, by go_num, by omega, HP.out⟩
                  case measure => simp [intOf]; omega
                · by_cases z13 : z = 13
                  · subst z13
                    go_wp2_with fail
                    go_roundw
                    case rel => exact ⟨q + 1, p, by omega, rfl, by go_num, by omega, HP.out⟩
                    case measure => simp [intOf]; omega
                  · have f10 : (z != 10) = true := by simpa using z10
                    have f13 : (z != 13) = true := by simpa using z13
                    by_cases z32 : z = 32
                    · rcases empty_or p with ⟨rfl, hp0⟩ | ⟨hp0, hpn, hpe⟩
                      · subst z32
                        clear hp0
                        go_wp2_with fail
                        go_roundw
                        case rel => exact ⟨q + 1, ⟨#[]⟩, by omega, rfl, by go_num, by omega, HP.out⟩
                        case measure => simp [intOf]; omega
                      · have hpv : (p.toList != ([] : List UInt8)) = true := by simp [bne, hpe]
                        have HPN := Lib.hid hpn
                        clear hpn
                        subst z32
                        go_wp2_with fail
                        go_roundw
                        case rel => exact ⟨q + 1, p ++ r, by omega, rfl, by go_num, by rw [ByteArray.size_append]; omega, (by rw [byt_append, HZ.out]; exact good_more _ _ HP.out.1 z10 z13 (.inr HPN.out)), HP.out.2.alloc HP.out.2.size _⟩
                        case measure => simp [intOf]; omega
                    · have f32 : (z != 32) = true := by simpa using z32
                      go_wp2_with fail
                      go_roundw
                      case rel => exact ⟨q + 1, p ++ r, by omega, rfl, by go_num, by rw [ByteArray.size_append]; omega, (by rw [byt_append, HZ.out]; exact good_more _ _ HP.out.1 z10 z13 (.inl z32)), HP.out.2.alloc HP.out.2.size _⟩
                      case measure => simp [intOf]; omega
              · have dq : decide (q < t.size) = false := decide_eq_false hqt
                have dq' : ¬ q < t.size := hqt
                go_wp2_with fail
                have HBX : Hid (Below wo.heap.size wo wr) := below_step HB3.out HP.out.2
                obtain ⟨WX, hWX⟩ : ∃ x, x = wr := ⟨_, rfl⟩
                subst hWX
                go_loop [16] (fun s => ∃ p : ByteArray, s = .string p ∧ p.size ≤ 12 ∧ Hid (Good (byt p))) (fun s => lenS s)
                case atStart => exact ⟨p, rfl, by omega, HP.out.1⟩
                case round =>
                  clear HP hps
                  obtain ⟨p, rfl, hp12, HP⟩ := hrel
                  by_cases hp0 : 0 < p.size
                  · have dp0 : (0 : Int) < (p.size : Int) := by omega
                    by_cases hlast : (p[p.size - 1].toNat : Int) = 32
                    · go_wp2_with fail
                      go_round
                      case rel =>
                        refine ⟨_, rfl, ?_, ?_⟩
                        · rw [ByteArray.size_extract]; omega
                        · show Good _
                          rw [byt_extract, List.drop_zero]; exact good_take _ _ HP.out
                      case measure => simp [lenS, ByteArray.size_extract]; omega
                    · have hl2 : ((p[p.size - 1].toNat : Int) == 32) = false := beq_eq_false_iff_ne.2 hlast
                      by_cases hk0 : k = 0
                      · skip
                        have dk0 : ((k : Int) == 0) = true := beq_iff_eq.2 (by omega)
                        have HK0 := Lib.hid hk0
                        clear hk0
                        obtain ⟨y, hy⟩ : ∃ y, (⟨#[120]⟩ : ByteArray) ++ p = y := ⟨_, rfl⟩
                        have hys : y.size ≤ 13 := by rw [← hy, ByteArray.size_append]; show 1 + p.size ≤ 13; omega
                        have hyb : byt y = 120 :: byt p := by rw [← hy, byt_append]; rfl
                        have HYB := Lib.hid hyb
                        have HYN : Hid (byt y ≠ []) := by show byt y ≠ []; rw [hyb]; simp
                        rcases empty_or y with ⟨h', h''⟩ | ⟨hy0, _, hye⟩
                        · exact absurd h'' HYN.out
                        have hyv : (y.toList != ([] : List UInt8)) = true := by simp [bne, hye]
                        clear hyb
                        obtain ⟨A5, cap5, W5, hrun5, hown5⟩ := append_txt (HK.out.1.below HBX.out) [y] 1 rfl #[.string y] rfl (by omega) WX.heap.size rfl (m + 1) rfl (l ++ [y]) rfl
                        have HRUN := Lib.hid hrun5
                        have HOWN := Lib.hid hown5
                        clear hrun5 hown5
                        go_wp2_with (at_builtin; refine wpList_append_known rfl _ (.tmp 107) 22 rfl _ _ _ _ rfl rfl HRUN.out ?_)
                        refine ⟨⟨k + 1, m + 1, cap5, A5, u2 ++ (inS ++ y) ++ B, l ++ [y], by omega, by omega, by omega, rfl, rfl, by go_num, ?_, HOWN.out, ?_, ?_, ?_, ?_⟩, by simp [intOf]; omega⟩
                        · simp only [ByteArray.size_append]; omega
                        · have := HK.out.2.1; omega
                        · simp only [byt_append, HK.out.2.2.1, HIN.out, HBR.out, List.map_append, encB, List.flatMap_append, List.map_cons, List.map_nil, List.flatMap_cons, List.flatMap_nil]
                          rw [rowT, if_neg HYN.out]
                          simp
                        · intro x hx
                          rcases List.mem_append.1 hx with h' | h'
                          · exact HK.out.2.2.2.1 x h'
                          · simp at h'; subst h'; exact ⟨by rw [HYB.out]; exact good_x _ HP.out, by omega⟩
                        · intro _
                          have hl0 : l = [] := List.eq_nil_of_length_eq_zero (by rw [HK.out.1.1, HK.out.2.1, HK0.out])
                          rw [hl0]; exact HYN.out
                      · have dk0 : ((k : Int) == 0) = false := beq_eq_false_iff_ne.2 (by omega)
                        have dk1 : ¬ k = 0 := hk0
                        rcases empty_or p with ⟨h', _⟩ | ⟨_, hpn, hpe⟩
                        · subst h'; exact absurd hp0 (by decide)
                        have HYN := Lib.hid hpn
                        have hpv : (p.toList != ([] : List UInt8)) = true := by simp [bne, hpe]
                        clear hpn
                        obtain ⟨A5, cap5, W5, hrun5, hown5⟩ := append_txt (HK.out.1.below HBX.out) [p] 1 rfl #[.string p] rfl (by omega) WX.heap.size rfl (m + 1) rfl (l ++ [p]) rfl
                        have HRUN := Lib.hid hrun5
                        have HOWN := Lib.hid hown5
                        clear hrun5 hown5
                        go_wp2_with (at_builtin; refine wpList_append_known rfl _ (.tmp 107) 22 rfl _ _ _ _ rfl rfl HRUN.out ?_)
                        refine ⟨⟨k + 1, m + 1, cap5, A5, u2 ++ (inS ++ p) ++ B, l ++ [p], by omega, by omega, by omega, rfl, rfl, by go_num, ?_, HOWN.out, ?_, ?_, ?_, ?_⟩, by simp [intOf]; omega⟩
                        · simp only [ByteArray.size_append]; omega
                        · have := HK.out.2.1; omega
                        · simp only [byt_append, HK.out.2.2.1, HIN.out, HBR.out, List.map_append, encB, List.flatMap_append, List.map_cons, List.map_nil, List.flatMap_cons, List.flatMap_nil]
                          rw [rowT, if_neg HYN.out]
                          simp
                        · intro x hx
                          rcases List.mem_append.1 hx with h' | h'
                          · exact HK.out.2.2.2.1 x h'
                          · simp at h'; subst h'; exact ⟨HP.out, by omega⟩
                        · intro _
                          have h1 := HK.out.2.2.2.2 (by omega)
                          have hll : 0 < l.length := by rw [HK.out.1.1, HK.out.2.1]; omega
                          rw [List.map_append, List.getD, List.getElem?_append_left (by simpa using hll)]
                          exact h1
                  · have dp0 : ¬ 0 < p.size := hp0
                    have dp1 : decide (0 < p.size) = false := decide_eq_false hp0
                    by_cases hk0 : k = 0
                    · skip
                      have dk0 : ((k : Int) == 0) = true := beq_iff_eq.2 (by omega)
                      have HK0 := Lib.hid hk0
                      clear hk0
                      obtain ⟨y, hy⟩ : ∃ y, (⟨#[120]⟩ : ByteArray) ++ p = y := ⟨_, rfl⟩
                      have hys : y.size ≤ 13 := by rw [← hy, ByteArray.size_append]; show 1 + p.size ≤ 13; omega
                      have hyb : byt y = 120 :: byt p := by rw [← hy, byt_append]; rfl
                      have HYB := Lib.hid hyb
                      have HYN : Hid (byt y ≠ []) := by show byt y ≠ []; rw [hyb]; simp
                      rcases empty_or y with ⟨h', h''⟩ | ⟨hy0, _, hye⟩
                      · exact absurd h'' HYN.out
                      have hyv : (y.toList != ([] : List UInt8)) = true := by simp [bne, hye]
                      clear hyb
                      obtain ⟨A5, cap5, W5, hrun5, hown5⟩ := append_txt (HK.out.1.below HBX.out) [y] 1 rfl #[.string y] rfl (by omega) WX.heap.size rfl (m + 1) rfl (l ++ [y]) rfl
                      have HRUN := Lib.hid hrun5
                      have HOWN := Lib.hid hown5
                      clear hrun5 hown5
                      go_wp2_with (at_builtin; refine wpList_append_known rfl _ (.tmp 107) 22 rfl _ _ _ _ rfl rfl HRUN.out ?_)
                      refine ⟨⟨k + 1, m + 1, cap5, A5, u2 ++ (inS ++ y) ++ B, l ++ [y], by omega, by omega, by omega, rfl, rfl, by go_num, ?_, HOWN.out, ?_, ?_, ?_, ?_⟩, by simp [intOf]; omega⟩
                      · simp only [ByteArray.size_append]; omega
                      · have := HK.out.2.1; omega
                      · simp only [byt_append, HK.out.2.2.1, HIN.out, HBR.out, List.map_append, encB, List.flatMap_append, List.map_cons, List.map_nil, List.flatMap_cons, List.flatMap_nil]
                        rw [rowT, if_neg HYN.out]
                        simp
                      · intro x hx
                        rcases List.mem_append.1 hx with h' | h'
                        · exact HK.out.2.2.2.1 x h'
                        · simp at h'; subst h'; exact ⟨by rw [HYB.out]; exact good_x _ HP.out, by omega⟩
                      · intro _
                        have hl0 : l = [] := List.eq_nil_of_length_eq_zero (by rw [HK.out.1.1, HK.out.2.1, HK0.out])
                        rw [hl0]; exact HYN.out
                    · have dk0 : ((k : Int) == 0) = false := beq_eq_false_iff_ne.2 (by omega)
                      have dk1 : ¬ k = 0 := hk0
                      rcases empty_or p with ⟨h', hp0'⟩ | ⟨h', _, _⟩
                      · have HY0 := Lib.hid hp0'
                        subst h'
                        clear hp0'
                        obtain ⟨A5, cap5, W5, hrun5, hown5⟩ := append_txt (HK.out.1.below HBX.out) [⟨#[]⟩] 1 rfl #[.string ⟨#[]⟩] rfl (by omega) WX.heap.size rfl (m + 1) rfl (l ++ [⟨#[]⟩]) rfl
                        have HRUN := Lib.hid hrun5
                        have HOWN := Lib.hid hown5
                        clear hrun5 hown5
                        go_wp2_with (at_builtin; refine wpList_append_known rfl _ (.tmp 107) 22 rfl _ _ _ _ rfl rfl HRUN.out ?_)
                        refine ⟨⟨k + 1, m + 1, cap5, A5, u2 ++ B, l ++ [⟨#[]⟩], by omega, by omega, by omega, rfl, rfl, by go_num, ?_, HOWN.out, ?_, ?_, ?_, ?_⟩, by simp [intOf]; omega⟩
                        · simp only [ByteArray.size_append]; omega
                        · have := HK.out.2.1; omega
                        · simp only [byt_append, HK.out.2.2.1, HIN.out, HBR.out, List.map_append, encB, List.flatMap_append, List.map_cons, List.map_nil, List.flatMap_cons, List.flatMap_nil]
                          rw [HY0.out, rowT, if_pos rfl]
                          simp
                        · intro x hx
                          rcases List.mem_append.1 hx with h' | h'
                          · exact HK.out.2.2.2.1 x h'
                          · simp at h'; subst h'; exact ⟨by rw [HY0.out]; exact good_nil, by decide⟩
                        · intro _
                          have h1 := HK.out.2.2.2.2 (by omega)
                          have hll : 0 < l.length := by rw [HK.out.1.1, HK.out.2.1]; omega
                          rw [List.map_append, List.getD, List.getElem?_append_left (by simpa using hll)]
                          exact h1
                      · exact absurd h' hp0
          · have hex : decide (k < len0) = false ∨ (decide (k < len0) = true ∧ decide ((k : Int) < 6) = false) := by
              by_cases h : k < len0
              · exact .inr ⟨decide_eq_true h, decide_eq_false (fun h' => hlt ⟨by omega, h⟩)⟩
              · exact .inl (decide_eq_false h)
            rcases hex with hex | ⟨hex, hex2⟩
            · have hge : ¬ k < len0 := by simpa using hex
              obtain ⟨y, hy⟩ : ∃ y, u2 ++ (⟨#[101, 110, 100]⟩ : ByteArray) ++ B = y := ⟨_, rfl⟩
              have hys : y.size ≤ 200 := by rw [← hy, ByteArray.size_append, ByteArray.size_append]; show u2.size + 3 + B.size ≤ 200; omega
              have hyb : byt y = encB col (brL a3) (l.map byt) ++ ([101, 110, 100] ++ brL a3) := by
                rw [← hy, byt_append, byt_append, HK.out.2.2.1, HBR.out, List.append_assoc]; rfl
              have HYB := Lib.hid hyb
              clear hyb
              obtain ⟨cap4, W4, hrun4, hle4, hmax4, hrd4, hbel4⟩ := bytes_of y (by omega) wr
              have HL4 : Hid ((byt y).length = y.size) := byt_len y
              have HY4 := Lib.hid (byt_byte y)
              have HB4 := Lib.hid hbel4
              have HR4 := Lib.hid hrd4
              clear hrd4 hbel4
              have hu2 : u2.size + 3 ≤ 200 := by omega
              go_wp2_with fail
              clear hrun4 hy
              refine (split_any _ y.size cap4 (byt y) W4 HL4.out hle4 hmax4 HY4.out HR4.out (fun h => by cases h) (by omega)).mono ?_
              rintro e W5 ⟨B1, m1, d1, rfl, hm1, hmd1, hd1, hrl1, hb5⟩
              have HB5 := Lib.hid hb5
              have HL5 := Lib.hid (And.intro hm1 hrl1)
              have hmn : m1 ≤ 200 := by have := split_len (byt y); rw [hm1, HL4.out] at this; omega
              clear hb5 hrl1 hm1
              by_cases hk0 : k = 0
              · have dm0 : ((m : Int) == 0) = true := beq_iff_eq.2 (by have := HK.out.2.1; omega)
                go_wp2_with fail
                refine (wakes_any W5).mono ?_
                rintro e W6 ⟨rfl, hb6⟩
                have HB6 := Lib.hid (below_step HK.out.1.2.2.1 (below_step HB4.out (below_step HB5.out hb6)))
                clear hb6
                go_wp2
                go_ret
                exact ⟨rfl, HB6.out⟩
              · have dm0 : ((m : Int) == 0) = false := beq_eq_false_iff_ne.2 (by have := HK.out.2.1; omega)
                have dm1 : ¬ m = 0 := by have := HK.out.2.1; omega
                have hblk := blocks (l.map byt) col base pa (brL a3) (by cases a3; exact .inl rfl; exact .inr rfl) hc1 (fun t ht => by obtain ⟨s, hs, rfl⟩ := List.mem_map.1 ht; exact (HK.out.2.2.2.1 s hs).1) (HK.out.2.2.2.2 (by omega)) HBA.out hbc (byt y) HYB.out
                obtain ⟨_, hbl2, hbl3, hbl4⟩ := hblk
                have hlies : Lies y.size (splitF (byt y)) := by rw [← HL4.out]; exact split_lies _
                have e1 := fun X (hX : Below W5.heap.size W5 X) => body_any wr.heap.size 0 y.size cap4 (byt y) B1 m1 d1 (splitF (byt y)) 0 pa ⟨false, false, false, col - base⟩ X HL4.out hle4 hmax4 (by omega) HY4.out (HR4.out.below (below_step HB5.out hX)) HL5.out.1 hmd1 (by omega) (HL5.out.2.below hX) hlies (by omega) hpa1 (by omega) (by simp only []; omega)
                have e2 := fun X (hX : Below W5.heap.size W5 X) => body_any wr.heap.size 0 y.size cap4 (byt y) B1 m1 d1 (splitF (byt y)) 0 pa ⟨false, false, false, 0⟩ X HL4.out hle4 hmax4 (by omega) HY4.out (HR4.out.below (below_step HB5.out hX)) HL5.out.1 hmd1 (by omega) (HL5.out.2.below hX) hlies (by omega) hpa1 (by omega) (by simp only []; omega)
                simp only [] at e1 e2
                rw [hbl3] at e1
                rw [hbl4] at e2
                simp only [hdV] at e1 e2
                have E1 := Lib.hid e1
                have E2 := Lib.hid e2
                have hdg : (col : Int) - max pa 0 = ((col - base : Nat) : Int) := by have := HCI.out.1; omega
                have HDG := Lib.hid hdg
                clear e1 e2 hbl2 hbl3 hbl4 hlies hdg
                go_wp2_with fail
                rw [HDG.out]
                refine (E1.out W5 (Below.refl _ _)).mono ?_
                rintro e V1 ⟨A1, q1, cp1, l1, ho1, hz1, rfl, hr1⟩
                obtain rfl : l1 = l := rows_inj _ _ hr1
                have HO1 := Lib.hid ho1
                have HV1 := Lib.hid ho1.2.2.1
                have hlen : (l1.map byt).length = m := by rw [List.length_map, HK.out.1.1]
                rw [hlen]
                have HLEN := Lib.hid hlen
                obtain rfl : q1 = m := by rw [← ho1.1]; exact HK.out.1.1
                clear ho1 hr1 hlen E1
                go_wp2_with fail
                refine (E2.out V1 HV1.out).mono ?_
                rintro e V2 ⟨A2, q2, cp2, l2, ho2, hz2, rfl, hr2⟩
                obtain rfl : l2 = l1 := rows_inj _ _ hr2
                have HO2 := Lib.hid ho2
                have HV2 := Lib.hid (below_step HV1.out ho2.2.2.1)
                have HO1' := Lib.hid (HO1.out.below ho2.2.2.1)
                have HLL := Lib.hid (HK.out.1.below (below_step HB4.out (below_step HB5.out (below_step HV1.out ho2.2.2.1))))
                rw [HLEN.out]
                obtain rfl : q2 = q1 := by rw [← ho2.1]; exact HK.out.1.1
                have hqb : q2 ≤ 9223372036854775807 := by omega
                clear ho2 hr2 E2
                go_wp2_with fail
                refine (same_any A1 A q2 cp1 q2 cap l2 V2 HO2.out.1 rfl hqb HO1'.out.rd HLL.out.rd).mono ?_
                rintro e V3 ⟨rfl, hb3⟩
                have HV3 := Lib.hid hb3
                clear hb3
                go_wp2_with fail
                refine (same_any A2 A q2 cp2 q2 cap l2 V3 HO2.out.1 rfl hqb (HO2.out.below HV3.out).rd (HLL.out.below HV3.out).rd).mono ?_
                rintro e V4 ⟨rfl, hb4⟩
                have HV4 := Lib.hid (below_step HV3.out hb4)
                clear hb4
                go_wp2_with fail
                refine (wakes_any V4).mono ?_
                rintro e V5 ⟨rfl, hb5⟩
                have HV5 := Lib.hid (below_step HLL.out.2.2.1 (below_step HV4.out hb5))
                clear hb5
                go_wp2
                go_ret
                exact ⟨rfl, HV5.out⟩
            · have hge : k < len0 := by simpa using hex
              have hge8 : ¬ (k : Int) < 6 := by simpa using hex2
              obtain ⟨y, hy⟩ : ∃ y, u2 ++ (⟨#[101, 110, 100]⟩ : ByteArray) ++ B = y := ⟨_, rfl⟩
              have hys : y.size ≤ 200 := by rw [← hy, ByteArray.size_append, ByteArray.size_append]; show u2.size + 3 + B.size ≤ 200; omega
              have hyb : byt y = encB col (brL a3) (l.map byt) ++ ([101, 110, 100] ++ brL a3) := by
                rw [← hy, byt_append, byt_append, HK.out.2.2.1, HBR.out, List.append_assoc]; rfl
              have HYB := Lib.hid hyb
              clear hyb
              obtain ⟨cap4, W4, hrun4, hle4, hmax4, hrd4, hbel4⟩ := bytes_of y (by omega) wr
              have HL4 : Hid ((byt y).length = y.size) := byt_len y
              have HY4 := Lib.hid (byt_byte y)
              have HB4 := Lib.hid hbel4
              have HR4 := Lib.hid hrd4
              clear hrd4 hbel4
              have hu2 : u2.size + 3 ≤ 200 := by omega
              go_wp2_with fail
              clear hrun4 hy
              refine (split_any _ y.size cap4 (byt y) W4 HL4.out hle4 hmax4 HY4.out HR4.out (fun h => by cases h) (by omega)).mono ?_
              rintro e W5 ⟨B1, m1, d1, rfl, hm1, hmd1, hd1, hrl1, hb5⟩
              have HB5 := Lib.hid hb5
              have HL5 := Lib.hid (And.intro hm1 hrl1)
              have hmn : m1 ≤ 200 := by have := split_len (byt y); rw [hm1, HL4.out] at this; omega
              clear hb5 hrl1 hm1
              by_cases hk0 : k = 0
              · have dm0 : ((m : Int) == 0) = true := beq_iff_eq.2 (by have := HK.out.2.1; omega)
                go_wp2_with fail
                refine (wakes_any W5).mono ?_
                rintro e W6 ⟨rfl, hb6⟩
                have HB6 := Lib.hid (below_step HK.out.1.2.2.1 (below_step HB4.out (below_step HB5.out hb6)))
                clear hb6
                go_wp2
                go_ret
                exact ⟨rfl, HB6.out⟩
              · have dm0 : ((m : Int) == 0) = false := beq_eq_false_iff_ne.2 (by have := HK.out.2.1; omega)
                have dm1 : ¬ m = 0 := by have := HK.out.2.1; omega
                have hblk := blocks (l.map byt) col base pa (brL a3) (by cases a3; exact .inl rfl; exact .inr rfl) hc1 (fun t ht => by obtain ⟨s, hs, rfl⟩ := List.mem_map.1 ht; exact (HK.out.2.2.2.1 s hs).1) (HK.out.2.2.2.2 (by omega)) HBA.out hbc (byt y) HYB.out
                obtain ⟨_, hbl2, hbl3, hbl4⟩ := hblk
                have hlies : Lies y.size (splitF (byt y)) := by rw [← HL4.out]; exact split_lies _
                have e1 := fun X (hX : Below W5.heap.size W5 X) => body_any wr.heap.size 0 y.size cap4 (byt y) B1 m1 d1 (splitF (byt y)) 0 pa ⟨false, false, false, col - base⟩ X HL4.out hle4 hmax4 (by omega) HY4.out (HR4.out.below (below_step HB5.out hX)) HL5.out.1 hmd1 (by omega) (HL5.out.2.below hX) hlies (by omega) hpa1 (by omega) (by simp only []; omega)
                have e2 := fun X (hX : Below W5.heap.size W5 X) => body_any wr.heap.size 0 y.size cap4 (byt y) B1 m1 d1 (splitF (byt y)) 0 pa ⟨false, false, false, 0⟩ X HL4.out hle4 hmax4 (by omega) HY4.out (HR4.out.below (below_step HB5.out hX)) HL5.out.1 hmd1 (by omega) (HL5.out.2.below hX) hlies (by omega) hpa1 (by omega) (by simp only []; omega)
                simp only [] at e1 e2
                rw [hbl3] at e1
                rw [hbl4] at e2
                simp only [hdV] at e1 e2
                have E1 := Lib.hid e1
                have E2 := Lib.hid e2
                have hdg : (col : Int) - max pa 0 = ((col - base : Nat) : Int) := by have := HCI.out.1; omega
                have HDG := Lib.hid hdg
                clear e1 e2 hbl2 hbl3 hbl4 hlies hdg
                go_wp2_with fail
                rw [HDG.out]
                refine (E1.out W5 (Below.refl _ _)).mono ?_
                rintro e V1 ⟨A1, q1, cp1, l1, ho1, hz1, rfl, hr1⟩
                obtain rfl : l1 = l := rows_inj _ _ hr1
                have HO1 := Lib.hid ho1
                have HV1 := Lib.hid ho1.2.2.1
                have hlen : (l1.map byt).length = m := by rw [List.length_map, HK.out.1.1]
                rw [hlen]
                have HLEN := Lib.hid hlen
                obtain rfl : q1 = m := by rw [← ho1.1]; exact HK.out.1.1
                clear ho1 hr1 hlen E1
                go_wp2_with fail
                refine (E2.out V1 HV1.out).mono ?_
                rintro e V2 ⟨A2, q2, cp2, l2, ho2, hz2, rfl, hr2⟩
                obtain rfl : l2 = l1 := rows_inj _ _ hr2
                have HO2 := Lib.hid ho2
                have HV2 := Lib.hid (below_step HV1.out ho2.2.2.1)
                have HO1' := Lib.hid (HO1.out.below ho2.2.2.1)
                have HLL := Lib.hid (HK.out.1.below (below_step HB4.out (below_step HB5.out (below_step HV1.out ho2.2.2.1))))
                rw [HLEN.out]
                obtain rfl : q2 = q1 := by rw [← ho2.1]; exact HK.out.1.1
                have hqb : q2 ≤ 9223372036854775807 := by omega
                clear ho2 hr2 E2
                go_wp2_with fail
                refine (same_any A1 A q2 cp1 q2 cap l2 V2 HO2.out.1 rfl hqb HO1'.out.rd HLL.out.rd).mono ?_
                rintro e V3 ⟨rfl, hb3⟩
                have HV3 := Lib.hid hb3
                clear hb3
                go_wp2_with fail
                refine (same_any A2 A q2 cp2 q2 cap l2 V3 HO2.out.1 rfl hqb (HO2.out.below HV3.out).rd (HLL.out.below HV3.out).rd).mono ?_
                rintro e V4 ⟨rfl, hb4⟩
                have HV4 := Lib.hid (below_step HV3.out hb4)
                clear hb4
                go_wp2_with fail
                refine (wakes_any V4).mono ?_
                rintro e V5 ⟨rfl, hb5⟩
                have HV5 := Lib.hid (below_step HLL.out.2.2.1 (below_step HV4.out hb5))
                clear hb5
                go_wp2
                go_ret
                exact ⟨rfl, HV5.out⟩


set_option maxRecDepth 100000 in
theorem lifted (os : Os) (started : os.Started) (H : Type) (enc : TypeId × Value → H) :
    ReturnsInHanded {} Try.checked os 5 .any (Rows.foldBlocksSpec.pre6 enc Try.prog Try.f5 Rows.foldBlocksRow.domain false) (Rows.foldBlocksSpec.post enc Try.prog Try.f5 false true false false) := by
  refine returnsInHanded_of_change (C := Try.checked) own started (by kernel_rfl) Try.func5
    (ChangeSpec.witness6 (enc := enc) (C := Try.checked) false ⟨#[], #[.slice none 0 0, .int .i64 0, .int .i64 0, .bool false], []⟩ 8 (by kernel_rfl) (by kernel_rfl) (by kernel_rfl) (by kernel_rfl)) ?_
  intro W base args ds gs before hval0 hW hcnd _
  have hval : ∀ (j : Nat) t v, Try.f5.params[j]? = some t → args[j]? = some v → Value.okWide Try.prog W .any base t v := hval0
  have hW' := hW
  obtain ⟨p, q, hA0, hV, rfl, hfz, hnd⟩ := hW
  have hA : DataW.TrodAll enc Try.prog W 0 (fun _ => true) true Try.f5.params.toList args.toList ds p := hA0
  rw [Try.params5] at hA hval
  obtain ⟨v0, vs0, d0, ds0, p0, q0, hargs, rfl, rfl, h0, r0⟩ := trodAll_cons hA
  obtain ⟨v1, vs1, d1, ds1, p1, q1, rfl, rfl, rfl, h1, r1⟩ := trodAll_cons r0
  obtain ⟨v2, vs2, d2, ds2, p2, q2, rfl, rfl, rfl, h2, r2⟩ := trodAll_cons r1
  obtain ⟨v3, vs3, d3, ds3, p3, q3, rfl, rfl, rfl, h3, r3⟩ := trodAll_cons r2
  obtain ⟨rfl, rfl, rfl⟩ := trodAll_nil r3
  obtain rfl : args = #[v0, v1, v2, v3] := by cases args; simp_all
  obtain ⟨rfl, rfl⟩ := trodVars_none hV
  obtain ⟨a0, len0, cap0, rfl⟩ := okWide_slice Try.underlying22 (hval 0 22 v0 rfl rfl)
  have k0 := h0
  have lt0 : ∀ x ∈ p0, x.block < W.heap.size := by obtain ⟨m, hm⟩ := k0; exact DataW.trod_lt m _ _ _ hm
  obtain ⟨z0, w0⟩ := open_texts h0
  obtain ⟨a1, rfl, rfl, rfl, w1⟩ := open_int Try.underlying3 (hval 1 3 v1 rfl rfl) h1
  obtain ⟨a2, rfl, rfl, rfl, w2⟩ := open_int Try.underlying3 (hval 2 3 v2 rfl rfl) h2
  obtain ⟨a3, rfl, rfl, rfl⟩ := open_bool Try.underlying4 (hval 3 4 v3 rfl rfl) h3
  clear hA0 hval0
  refine (walk a0 len0 cap0 z0 a1 a2 a3 W w0 w1 w2).mono fun e W' ⟨he, bel⟩ => ?_
  subst he
  exact ⟨_, rfl, _, _, _, [], _, [], hW', trodAll_mk1 (shut_bool Try.underlying4 _), (trodAll_cons_mk (Below.trod laidOut (by kernel_rfl) (of_decide_eq_true (by kernel_rfl)) k0 bel lt0) (trodAll_cons_mk (shut_int Try.underlying3 w1) (trodAll_cons_mk (shut_int Try.underlying3 w2) (trodAll_cons_mk (shut_bool Try.underlying4 _) trodAll_mk0)))), rfl, bel.frame _, fun h => by cases h⟩

theorem over : Rows.foldBlocksRow.holds Try.pinned (OpenSpec.ofChange Rows.foldBlocksSpec) :=
  OpenClaim.holds_of_wide 5 Try.f5 rfl rfl rfl rfl rfl rfl rfl ⟨rfl, rfl, rfl, rfl, rfl⟩ rfl rfl rfl rfl rfl (by kernel_rfl) Try.func5 (by kernel_rfl)
    (of_decide_eq_true (by kernel_rfl)) (by unfold Func.isWrapper; first | (rw [if_pos (by decide +kernel)]; kernel_rfl) | (rw [if_neg (by decide +kernel)]; exact ⟨rfl, rfl⟩))
    (fun os started H enc _ => lifted os started H enc)

theorem proved : Rows.FoldBlocksSaid := over
#print axioms proved
end Go.Proofs.Ytodnfdkcmhiljaa.foldBlocks
