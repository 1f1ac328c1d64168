/- The contracts of package tail: blanks, commentAt, Clear, Comment, marker, Marker; bytes.CutPrefix. -/
import Derived.Test.YtjdmbldbbohdbaaTlPure
import Derived.Test.YtjdmbldbbohdbaaBytes
import Derived.Test.YtjdmbldbbohdbaaSameB
namespace Go.Proofs.Ytjdmbldbbohdbaa
open Go.RowKit
set_option linter.unusedVariables false

set_option maxHeartbeats 1000000 in
theorem tblanks_any (A : Option Addr) (n c : Nat) (zs : List Int) (w : World) (hl : zs.length = n) (hnc : n ≤ c) (hm : c ≤ 9223372036854775807) (hr : RdB w A zs) :
    Calls Try.prog 24 #[.slice A n c] w fun e w' => e = .returned (.int .i64 (blkF zs : Int)) ∧ w = w' := by
  have HR := Lib.hid hr
  have HL := Lib.hid hl
  clear hr hl
  go_enter Try.func24, Try.ntmps24
  go_wp2
  go_loop [3] (fun i => ∃ k : Nat, k ≤ n ∧ i = .int .i64 (k : Int) ∧ Hid (blkF zs = k + blkF (zs.drop k))) (fun i => n - (intOf i).toNat)
  case atStart => exact ⟨0, Nat.zero_le _, rfl, by show _ = _; simp⟩
  case round =>
    obtain ⟨k, hk, rfl, HA⟩ := hrel
    by_cases hlt : k < n
    · obtain ⟨b, off, rfl, hc⟩ := HR.out.addr (by rw [HL.out]; omega)
      have ck := hc k (by rw [HL.out]; exact hlt)
      have hbk := blk_at (l := zs) (k := k) (by rw [HL.out]; exact hlt)
      have d1 : (k : Int) < (n : Int) := by omega
      generalize zs.getD k 0 = x at *
      by_cases h32 : x = 32
      · subst h32
        have HK : Hid (blkF zs = k + 1 + blkF (zs.drop (k + 1))) := by show _ = _; rw [HA.out, hbk, if_pos rfl]; omega
        clear hbk hc
        go_wp2
        go_round
        case rel => exact ⟨k + 1, by omega, by go_num, HK⟩
        case measure => simp [intOf]; omega
      · have HK : Hid (blkF zs = k) := by show _ = _; rw [HA.out, hbk, if_neg h32]; omega
        have ds : (x == 32) = false := beq_eq_false_iff_ne.2 h32
        clear hbk hc
        go_wp2
        go_ret
        exact ⟨ret_int (by rw [HK.out]), rfl⟩
    · have HK : Hid (blkF zs = k) := by show _ = _; rw [HA.out, blk_end (by rw [HL.out]; omega)]; omega
      have d1 : decide ((k : Int) < (n : Int)) = false := decide_eq_false (by omega)
      go_wp2
      go_ret
      exact ⟨ret_int (by rw [HK.out]), rfl⟩

set_option maxHeartbeats 1000000 in
theorem commentAt_any (A : Option Addr) (n c : Nat) (zs : List Int) (w : World) (hl : zs.length = n) (hnc : n ≤ c) (hm : c ≤ 9223372036854775807) (hr : RdB w A zs) (v : Bool) (hv : cmtF zs = v) :
    Calls Try.prog 25 #[.slice A n c, .int .i64 (blkF zs : Int)] w fun e w' => e = .returned (.bool v) ∧ w = w' := by
  subst hl
  unfold cmtF at hv
  generalize blkF zs = k at *
  by_cases h0 : 0 < k
  · by_cases h1 : k < zs.length
    · obtain ⟨b, off, rfl, hc⟩ := hr.addr (by omega)
      have ck := hc k h1
      rw [decide_eq_true h0, decide_eq_true h1, Bool.true_and, Bool.true_and] at hv
      generalize zs.getD k 0 = x at *
      have HV := Lib.hid hv
      have d0 : (0 : Int) < (k : Int) := by omega
      have d1 : (k : Int) < (zs.length : Int) := by omega
      clear hc hr hv
      go_enter Try.func25, Try.ntmps25
      go_wp2
      go_ret
      exact ⟨ret_bool HV.out, rfl⟩
    · rw [decide_eq_true h0, decide_eq_false h1] at hv
      obtain rfl : v = false := hv.symm
      have d0 : (0 : Int) < (k : Int) := by omega
      have d1 : decide ((k : Int) < (zs.length : Int)) = false := decide_eq_false (by omega)
      clear hr hv
      go_enter Try.func25, Try.ntmps25
      go_wp2
      go_ret
      exact ⟨rfl, rfl⟩
  · obtain rfl : k = 0 := by omega
    obtain rfl : v = false := hv.symm
    clear hr hv
    go_enter Try.func25, Try.ntmps25
    go_wp2
    go_ret
    exact ⟨rfl, rfl⟩

set_option maxHeartbeats 1000000 in
theorem clear_any (A : Option Addr) (n c : Nat) (zs : List Int) (w : World) (hl : zs.length = n) (hnc : n ≤ c) (hm : c ≤ 9223372036854775807) (hr : RdB w A zs) (v : Bool) (hv : clrF zs = v) :
    Calls Try.prog 18 #[.slice A n c] w fun e w' => e = .returned (.bool v) ∧ w = w' := by
  have HBL := Lib.hid (tblanks_any A n c zs w hl hnc hm hr)
  have HC := Lib.hid (commentAt_any A n c zs w hl hnc hm hr _ rfl)
  unfold clrF at hv
  have hk := blk_len zs
  rw [hl] at hv hk
  by_cases h : blkF zs = n
  · rw [decide_eq_true h, Bool.true_or] at hv
    subst hv
    have d : (blkF zs : Int) = (n : Int) := by omega
    clear hr hl HC
    generalize blkF zs = k at *
    subst h
    go_enter Try.func18, Try.ntmps18
    go_wp2_with (go_at_call 24; refine HBL.out.mono ?_; rintro e w' ⟨rfl, rfl⟩)
    go_ret
    exact ⟨rfl, rfl⟩
  · rw [decide_eq_false h, Bool.false_or] at hv
    generalize cmtF zs = b at *
    subst hv
    have d : ((blkF zs : Int) == (n : Int)) = false := beq_eq_false_iff_ne.2 (by omega)
    generalize blkF zs = k at *
    clear hr hl
    go_enter Try.func18, Try.ntmps18
    go_wp2_with (first
      | (go_at_call 24; refine HBL.out.mono ?_; rintro e w' ⟨rfl, rfl⟩)
      | (go_at_call 25; refine HC.out.mono ?_; rintro e w' ⟨rfl, rfl⟩))
    go_ret
    exact ⟨rfl, rfl⟩

set_option maxHeartbeats 1000000 in
theorem comment_any (A : Option Addr) (n c : Nat) (zs : List Int) (w : World) (hl : zs.length = n) (hnc : n ≤ c) (hm : c ≤ 9223372036854775807) (hr : RdB w A zs) :
    Calls Try.prog 16 #[.slice A n c] w fun e w' => e = .returned (.tuple #[.int .i64 (if cmtF zs then (blkF zs : Int) else 0), .bool (cmtF zs)]) ∧ w = w' := by
  have HBL := Lib.hid (tblanks_any A n c zs w hl hnc hm hr)
  cases hv : cmtF zs with
  | true =>
    have HC := Lib.hid (commentAt_any A n c zs w hl hnc hm hr _ hv)
    generalize blkF zs = k at *
    clear hr hl hv
    go_enter Try.func16, Try.ntmps16
    go_wp2_with (first
      | (go_at_call 24; refine HBL.out.mono ?_; rintro e w' ⟨rfl, rfl⟩)
      | (go_at_call 25; refine HC.out.mono ?_; rintro e w' ⟨rfl, rfl⟩))
    go_ret2
    exact ⟨rfl, rfl⟩
  | false =>
    have HC := Lib.hid (commentAt_any A n c zs w hl hnc hm hr _ hv)
    generalize blkF zs = k at *
    clear hr hl hv
    go_enter Try.func16, Try.ntmps16
    go_wp2_with (first
      | (go_at_call 24; refine HBL.out.mono ?_; rintro e w' ⟨rfl, rfl⟩)
      | (go_at_call 25; refine HC.out.mono ?_; rintro e w' ⟨rfl, rfl⟩))
    go_ret2
    exact ⟨rfl, rfl⟩

set_option maxHeartbeats 1000000 in
theorem tmarker_any (A : Option Addr) (n c : Nat) (zs : List Int) (w : World) (q : Int) (hl : zs.length = n) (hnc : n ≤ c) (hm : c ≤ 9223372036854775807) (hr : RdB w A zs) (v : Int) (hv : mkF zs q = v) :
    Calls Try.prog 22 #[.slice A n c, .int .i64 q] w fun e w' => e = .returned (.int .i64 v) ∧ w = w' := by
  unfold mkF at hv
  cases hc : clrF zs with
  | true =>
    have HC := Lib.hid (clear_any A n c zs w hl hnc hm hr _ hc)
    rw [hc, if_pos rfl] at hv
    subst hv
    clear hr hl hc
    go_enter Try.func22, Try.ntmps22
    go_wp2_with (go_at_call 18; refine HC.out.mono ?_; rintro e w' ⟨rfl, rfl⟩)
    go_ret
    exact ⟨rfl, rfl⟩
  | false =>
    have HC := Lib.hid (clear_any A n c zs w hl hnc hm hr _ hc)
    have hp := clr_pos hc
    rw [hc] at hv
    subst hl
    obtain ⟨b, off, rfl, hcc⟩ := hr.addr hp
    have ck := hcc 0 hp
    rw [Nat.add_zero] at ck
    have hp' : (0 : Int) < (zs.length : Int) := by omega
    generalize zs.getD 0 0 = x at *
    clear hr hc hcc
    by_cases h1 : x = 32
    · subst h1
      obtain rfl : v = 3 := by rw [← hv]; rfl
      clear hv
      go_enter Try.func22, Try.ntmps22
      go_wp2_with (go_at_call 18; refine HC.out.mono ?_; rintro e w' ⟨rfl, rfl⟩)
      go_ret
      exact ⟨rfl, rfl⟩
    · have e1 : (x == 32) = false := beq_eq_false_iff_ne.2 h1
      by_cases h2 : x = 9
      · subst h2
        obtain rfl : v = 3 := by rw [← hv]; rfl
        clear hv
        go_enter Try.func22, Try.ntmps22
        go_wp2_with (go_at_call 18; refine HC.out.mono ?_; rintro e w' ⟨rfl, rfl⟩)
        go_ret
        exact ⟨rfl, rfl⟩
      · have e2 : (x == 9) = false := beq_eq_false_iff_ne.2 h2
        obtain rfl : v = 0 := by rw [← hv, e1, e2]; rfl
        clear hv
        go_enter Try.func22, Try.ntmps22
        go_wp2_with (go_at_call 18; refine HC.out.mono ?_; rintro e w' ⟨rfl, rfl⟩)
        go_ret
        exact ⟨rfl, rfl⟩

/-- bytes.CutPrefix: what is behind the prefix, or all. -/
def CutB (n c m : Nat) (zs : List Int) (v : Bool) (w : World) (e : Ending) (w' : World) : Prop :=
  w = w' ∧ ∃ A', e = .returned (.tuple #[.slice A' (if v then n - m else n) (if v then c - m else c), .bool v]) ∧ (v = true → m ≤ n ∧ (A' = none → c - m = 0) ∧ RdB w A' (zs.drop m))
set_option maxHeartbeats 1000000 in
theorem cutPrefix_any (A B : Option Addr) (n c m d : Nat) (zs ys : List Int) (w : World) (hl : zs.length = n) (hy : ys.length = m) (h0 : 0 < m) (hnc : n ≤ c) (hm : c ≤ 9223372036854775807) (hA : A = none → c = 0) (hr : RdB w A zs) (hs : RdB w B ys) (hbz : Byte zs) (hby : Byte ys) (v : Bool)
    (hv : pfxF ys zs = v) :
    Calls Try.prog 21 #[.slice A n c, .slice B m d] w (CutB n c m zs v w) := by
  unfold pfxF at hv
  rw [hl, hy] at hv
  have HP := Lib.hid (hasPrefix_any A B n c m d zs ys w hl hy h0 hnc hm hr hs hbz hby v hv)
  cases v with
  | true =>
    have hmn : m ≤ n := by
      rw [Bool.and_eq_true, decide_eq_true_eq] at hv
      exact hv.1
    obtain ⟨A', hrun, h2, h3⟩ := slice_l A n c m zs hl hnc hA hmn
    have h4 := h3 w hr
    have H := Lib.hid (And.intro h2 h4)
    clear h2 h3 h4 hr hs hbz hby hl hy hv hA
    go_enter Try.func21, Try.ntmps21
    go_wp2_with (go_at_call 27; refine HP.out.mono ?_; rintro e w' ⟨rfl, rfl⟩)
    go_ret2
    exact ⟨rfl, A', rfl, fun _ => ⟨hmn, H.out.1, H.out.2⟩⟩
  | false =>
    clear hr hs hbz hby hl hy hv hA
    go_enter Try.func21, Try.ntmps21
    go_wp2_with (go_at_call 27; refine HP.out.mono ?_; rintro e w' ⟨rfl, rfl⟩)
    go_ret2
    exact ⟨rfl, A, rfl, fun h => by cases h⟩
end Go.Proofs.Ytjdmbldbbohdbaa
