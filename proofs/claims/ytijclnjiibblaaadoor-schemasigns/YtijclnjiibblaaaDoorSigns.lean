/-
  Proved: the card of the law 'scholium/scholiumlaw08.SchemaSigns' (for every input it returns true, and every argument reads as it did before; the package variables that the row lists are tied to the program's text). No conditions.
-/
import Derived.Test.YtijclnjiibblaaaDoorRows
import Derived.Test.YtijclnjiibblaaaDoorCards
import Derived.Test.YtijclnjiibblaaaDoorTie
import Derived.Test.YtijclnjiibblaaaDoorDoor
import Derived.Test.YtijclnjiibblaaaDoorScText
import Derived.Test.YtijclnjiibblaaaDoorScFacts
import Derived.Test.YtijclnjiibblaaaDoorScRFlo
import Derived.WalkKit
import Derived.ProofKit
import Derived.OpenShut
import Derived.ShutString
import Derived.ChangeOld
import Derived.Below
import Derived.LaidMore
import Derived.Lay
import Derived.SevenTiedAt
namespace Go.Proofs.YtijclnjiibblaaaDoor.schemaSigns
open Go.ChangeShapes Go.WideShapes Go.ChangeAt Go.RowKit
open Go.ChangeMaps (open_string shut_string)
set_option linter.unusedVariables false

theorem own : ownKnob Tryd.prog.godebug = none := by kernel_rfl
theorem laidOut : laidOutB Tryd.prog = true := by kernel_rfl

/-- A slice of integers that came in. -/
def IsRow (k : IntKind) (w : World) (a : Option Addr) (len cap : Nat) (zs : List Int) : Prop :=
  (a = none ∧ len = 0 ∧ cap = 0 ∧ zs = []) ∨
  ∃ x, a = some x ∧ len ≤ cap ∧ cap ≤ maxLen ∧ zs.length = cap ∧ (∀ i, i < zs.length → w.cell? (x.add i) = some (.int k (zs.getD i 0))) ∧ ∀ n ∈ zs, (Lit.int k n).wf = true

theorem app_list (l : List UInt8) (t : ByteArray) : (mk l ++ t).toList = l ++ t.toList := by rw [list_append, mk_list]
theorem app_size (l : List UInt8) (t : ByteArray) : (mk l ++ t).size = l.length + t.size := by rw [ByteArray.size_append, ← list_len, mk_list]
def digF : List UInt8 → Bool
  | [] => false
  | c :: _ => decide (48 ≤ c.toNat) && decide (c.toNat ≤ 57)
def sndF : List UInt8 → Bool
  | [] => true
  | d :: _ => !(d == 111) && !(d == 120)
def innF : List UInt8 → Bool
  | [] => false
  | c :: r => tenD.contains c && sndF r
theorem dig_ten : ∀ n : Fin 256, tenD.contains (UInt8.ofNat n.val) = (decide (48 ≤ n.val) && decide (n.val ≤ 57)) := by decide +kernel
theorem digF_ten (c : UInt8) (r : List UInt8) : digF (c :: r) = tenD.contains c := by
  have := dig_ten ⟨c.toNat, c.toNat_lt⟩
  simp only [UInt8.ofNat_toNat] at this
  rw [digF, this]
theorem inn_no (l : List UInt8) (h : digF l = false) : innF l = false := by
  cases l with
  | nil => rfl
  | cons c r => rw [digF_ten] at h; rw [innF, h]; rfl
theorem inn_yes (l : List UInt8) (h : digF l = true) : ∃ x l2, l = x :: l2 ∧ tenD.contains x = true := by
  cases l with
  | nil => cases h
  | cons c r => rw [digF_ten] at h; exact ⟨c, r, rfl, h⟩
theorem inn_facts (l : List UInt8) (h : innF l = true) : intF (45 :: l) = intF l ∧ intF (43 :: l) = intF l ∧ floF (45 :: l) = floF l ∧ intF (45 :: 45 :: l) = false ∧ floF (43 :: 45 :: l) = false ∧ (intF l = true → floF l = true) := by
  cases l with
  | nil => cases h
  | cons c r =>
    rw [innF, Bool.and_eq_true] at h
    refine sign_facts c r h.1 (fun x hx => ?_)
    cases r with
    | nil => cases hx
    | cons d q =>
      injection hx with hx
      subst hx
      have := h.2
      rw [sndF] at this
      simpa using this
set_option maxHeartbeats 4000000 in
set_option maxRecDepth 100000 in
theorem walk (a0 : ByteArray) (a1 : Option Addr) (len1 cap1 : Nat) (z1 : List Int) (a2 : Bool) (w : World) (w0 : a0.size ≤ maxLen) (w1 : IsRow .i64 w a1 len1 cap1 z1) (hT : True) :
    Calls Tryd.prog 6 #[.string a0, .slice a1 len1 cap1, .bool a2] w fun e w' => e = .returned (.bool true) ∧ Below w.heap.size w w' := by
  have HT := Lib.hid (txt_any a0 a1 len1 cap1 z1 a2 w w0 w1)
  clear w0 w1 hT
  go_enter Tryd.func6, Tryd.ntmps6
  go_wp2_with fail
  refine HT.out.mono ?_
  rintro e W0 ⟨t, ht, rfl, hb⟩
  have HB0 := Lib.hid hb
  clear hb HT
  obtain ⟨um, hume⟩ : ∃ u, (⟨#[45]⟩ : ByteArray) ++ t = u := ⟨_, rfl⟩
  obtain ⟨up, hupe⟩ : ∃ u, (⟨#[43]⟩ : ByteArray) ++ t = u := ⟨_, rfl⟩
  obtain ⟨umm, humme⟩ : ∃ u, (⟨#[45, 45]⟩ : ByteArray) ++ t = u := ⟨_, rfl⟩
  obtain ⟨upm, hupme⟩ : ∃ u, (⟨#[43, 45]⟩ : ByteArray) ++ t = u := ⟨_, rfl⟩
  obtain ⟨ux, huxe⟩ : ∃ u, t ++ (⟨#[120]⟩ : ByteArray) = u := ⟨_, rfl⟩
  obtain ⟨ub, hube⟩ : ∃ u, t ++ (⟨#[32]⟩ : ByteArray) = u := ⟨_, rfl⟩
  obtain ⟨bu, hbue⟩ : ∃ u, (⟨#[32]⟩ : ByteArray) ++ t = u := ⟨_, rfl⟩
  have hum : um.toList = 45 :: t.toList := by rw [← hume]; exact app_list [45] t
  have hup : up.toList = 43 :: t.toList := by rw [← hupe]; exact app_list [43] t
  have humm : umm.toList = 45 :: 45 :: t.toList := by rw [← humme]; exact app_list [45, 45] t
  have hupm : upm.toList = 43 :: 45 :: t.toList := by rw [← hupme]; exact app_list [43, 45] t
  have hux : ux.toList = t.toList ++ [120] := by rw [← huxe, list_append]; exact congrArg _ (mk_list [120])
  have hub : ub.toList = t.toList ++ [32] := by rw [← hube, list_append]; exact congrArg _ (mk_list [32])
  have hbu : bu.toList = 32 :: t.toList := by rw [← hbue]; exact app_list [32] t
  have sum : um.size ≤ 42 := by rw [← list_len, hum]; simp only [List.length_cons, list_len]; omega
  have sup : up.size ≤ 42 := by rw [← list_len, hup]; simp only [List.length_cons, list_len]; omega
  have summ : umm.size ≤ 42 := by rw [← list_len, humm]; simp only [List.length_cons, list_len]; omega
  have supm : upm.size ≤ 42 := by rw [← list_len, hupm]; simp only [List.length_cons, list_len]; omega
  have sux : ux.size ≤ 42 := by rw [← list_len, hux, List.length_append, list_len]; simp; omega
  have sub : ub.size ≤ 42 := by rw [← list_len, hub, List.length_append, list_len]; simp; omega
  have sbu : bu.size ≤ 42 := by rw [← list_len, hbu]; simp only [List.length_cons, list_len]; omega
  have hbl := blank_behind t.toList
  have HBB : Hid (boolF ub.toList = false) := by show _ = _; rw [hub]; exact hbl.1
  have HBN : Hid (nullF ub.toList = false) := by show _ = _; rw [hub]; exact hbl.2.1
  have HBI : Hid (intF ub.toList = false) := by show _ = _; rw [hub]; exact hbl.2.2
  have HBF : Hid (floF bu.toList = false) := by show _ = _; rw [hbu]; exact flo_head 32 _ (by decide) (by decide) (by decide) (by decide)
  have HUX := Lib.hid hux
  clear hbl hub hbu hux
  obtain ⟨dg, hdg⟩ : ∃ b : Bool, digF t.toList = b := ⟨_, rfl⟩
  have HDG := Lib.hid hdg
  clear hdg
  go_upto_region 2 with fail
  go_cut [8] (fun v V => v = .bool dg ∧ V = W0)
  case first =>
    cases he : t.toList.isEmpty with
    | true =>
      have : dg = false := by rw [← HDG.out, List.isEmpty_iff.1 he]; rfl
      subst this
      go_wp2_with fail
      go_meet
      exact ⟨rfl, rfl⟩
    | false =>
      obtain ⟨x, l2, hl, h1, -, -, hix⟩ := split_text t he
      have hx := x.toNat_lt
      have HD2 : Hid ((decide (48 ≤ x.toNat) && decide (x.toNat ≤ 57)) = dg) := by show _ = _; rw [← HDG.out, hl, digF]
      have hxc : ∃ c : Int, (x.toNat : Int) = c ∧ 0 ≤ c ∧ c < 256 ∧ Hid ((decide (48 ≤ c) && decide (c ≤ 57)) = dg) := by
        refine ⟨_, rfl, by omega, by omega, ?_⟩
        show _ = _
        rw [← HD2.out]
        congr 1
        · exact decide_eq_decide.2 (by omega)
        · exact decide_eq_decide.2 (by omega)
      obtain ⟨c, hc, hc0, hc1, HD3⟩ := hxc
      rw [hc] at hix
      clear hl HD2 HDG hc
      by_cases h48 : 48 ≤ c
      · by_cases h57 : c ≤ 57
        · have : dg = true := by rw [← HD3.out]; simp [h48, h57]
          subst this
          go_wp2_with fail
          go_meet
          exact ⟨rfl, rfl⟩
        · have g : decide (c ≤ 57) = false := decide_eq_false h57
          have : dg = false := by rw [← HD3.out, g, Bool.and_false]
          subst this
          go_wp2_with fail
          go_meet
          exact ⟨rfl, rfl⟩
      · have g : decide (48 ≤ c) = false := decide_eq_false h48
        have : dg = false := by rw [← HD3.out, g, Bool.false_and]
        subst this
        go_wp2_with fail
        go_meet
        exact ⟨rfl, rfl⟩
  case rest =>
    obtain ⟨rfl, rfl⟩ := hcut
    obtain ⟨inn, hinn⟩ : ∃ b : Bool, innF t.toList = b := ⟨_, rfl⟩
    have HIN := Lib.hid hinn
    clear hinn
    go_upto_region 3 with fail
    go_cut [40] (fun v V => v = .bool inn ∧ V = wc)
    case first =>
      cases dg with
      | false =>
        have : inn = false := by rw [← HIN.out]; exact inn_no _ HDG.out
        subst this
        go_wp2_with fail
        go_meet
        exact ⟨rfl, rfl⟩
      | true =>
        obtain ⟨x, l2, hl, hx⟩ := inn_yes _ HDG.out
        have hsz : t.size = l2.length + 1 := by rw [← list_len, hl]; rfl
        clear HDG
        by_cases h2 : t.size < 2
        · have g2 : (t.size : Int) < 2 := by omega
          obtain rfl : l2 = [] := List.length_eq_zero_iff.1 (by omega)
          have : inn = true := by rw [← HIN.out, hl, innF, hx]; rfl
          subst this
          go_wp2_with fail
          go_meet
          exact ⟨rfl, rfl⟩
        · have g2 : decide ((t.size : Int) < 2) = false := decide_eq_false (by omega)
          obtain ⟨y, hy, hiy⟩ := str_ix t 1 (by omega)
          have hiy' : ∀ V, (Instr.index 9 (.string t) (.int .i64 1)).run Tryd.prog V = .ok (.int .u8 (y.toNat : Int)) V := hiy
          have e1 := u8_ne y 111
          have e2 := u8_ne y 120
          simp only [show (((111 : UInt8).toNat : Nat) : Int) = 111 from rfl] at e1
          simp only [show (((120 : UInt8).toNat : Nat) : Int) = 120 from rfl] at e2
          have hin : inn = (!(y == 111) && !(y == 120)) := by
            rw [hl, List.getElem?_cons_succ] at hy
            cases l2 with
            | nil => cases hy
            | cons z q =>
              injection hy with hy
              subst hy
              rw [← HIN.out, hl, innF, hx]; rfl
          clear hiy hy hl hx HIN hsz
          by_cases ho : y = 111
          · have g3 : ((y.toNat : Int) != 111) = false := by rw [e1, ho]; rfl
            obtain rfl : inn = false := by rw [hin, ho]; rfl
            clear e1 e2 ho hin
            generalize (y.toNat : Int) = yc at *
            go_wp2_with fail
            go_meet
            exact ⟨rfl, rfl⟩
          · have g3 : ((y.toNat : Int) != 111) = true := by rw [e1, beq_eq_false_iff_ne.2 ho]; rfl
            by_cases hxx : y = 120
            · have g4 : ((y.toNat : Int) != 120) = false := by rw [e2, hxx]; rfl
              obtain rfl : inn = false := by rw [hin, hxx]; rfl
              clear e1 e2 ho hxx hin
              generalize (y.toNat : Int) = yc at *
              go_wp2_with fail
              go_meet
              exact ⟨rfl, rfl⟩
            · have g4 : ((y.toNat : Int) != 120) = true := by rw [e2, beq_eq_false_iff_ne.2 hxx]; rfl
              obtain rfl : inn = true := by rw [hin, beq_eq_false_iff_ne.2 ho, beq_eq_false_iff_ne.2 hxx]; rfl
              clear e1 e2 ho hxx hin
              generalize (y.toNat : Int) = yc at *
              go_wp2_with fail
              go_meet
              exact ⟨rfl, rfl⟩
    case rest =>
     obtain ⟨rfl, rfl⟩ := hcut
     go_upto_if 40 with fail
     go_cut [6] (fun v V => v = .bool false ∧ Hid (Below w.heap.size w V))
     case first =>
      cases inn with
      | false =>
        go_wp2_with fail
        go_meet
        exact ⟨rfl, HB0⟩
      | true =>
        have hsf := inn_facts _ HIN.out
        obtain ⟨bi, hbi⟩ : ∃ b, intF t.toList = b := ⟨_, rfl⟩
        obtain ⟨bf, hbf⟩ : ∃ b, floF t.toList = b := ⟨_, rfl⟩
        have HI := Lib.hid hbi
        have HF := Lib.hid hbf
        have HUM : Hid (intF um.toList = bi) := by show _ = _; rw [hum, hsf.1, hbi]
        have HUP : Hid (intF up.toList = bi) := by show _ = _; rw [hup, hsf.2.1, hbi]
        have HFM : Hid (floF um.toList = bf) := by show _ = _; rw [hum, hsf.2.2.1, hbf]
        have HUMM : Hid (intF umm.toList = false) := by show _ = _; rw [humm, hsf.2.2.2.1]
        have HUPM : Hid (floF upm.toList = false) := by show _ = _; rw [hupm, hsf.2.2.2.2.1]
        have HIF : Hid (intF t.toList = true → floF t.toList = true) := hsf.2.2.2.2.2
        clear hsf hbi hbf hum hup humm hupm HIN HDG
        go_wp2_with fail
        refine (int_at HB0.out t bi HI.out).mono ?_
        rintro e IW0 ⟨rfl, hb⟩
        have I0 := Lib.hid hb
        clear hb
        go_wp2_with fail
        refine (int_at I0.out um bi HUM.out).mono ?_
        rintro e IW1 ⟨rfl, hb⟩
        have I1 := Lib.hid hb
        clear hb
        go_wp2_with fail
        refine (int_at I1.out t bi HI.out).mono ?_
        rintro e IW2 ⟨rfl, hb⟩
        have I2 := Lib.hid hb
        clear hb
        go_wp2_with fail
        refine (int_at I2.out up bi HUP.out).mono ?_
        rintro e IW3 ⟨rfl, hb⟩
        have I3 := Lib.hid hb
        clear hb
        go_wp2_with fail
        refine (flo_at I3.out t (by omega) bf HF.out).mono ?_
        rintro e IW4 ⟨rfl, hb⟩
        have I4 := Lib.hid hb
        clear hb
        go_wp2_with fail
        refine (flo_at I4.out um (by omega) bf HFM.out).mono ?_
        rintro e IW5 ⟨rfl, hb⟩
        have I5 := Lib.hid hb
        clear hb
        go_wp2_with fail
        refine (int_at I5.out umm false HUMM.out).mono ?_
        rintro e IW6 ⟨rfl, hb⟩
        have I6 := Lib.hid hb
        clear hb
        go_wp2_with fail
        refine (flo_at I6.out upm (by omega) false HUPM.out).mono ?_
        rintro e IW7 ⟨rfl, hb⟩
        have I7 := Lib.hid hb
        clear hb
        go_wp2_with fail
        refine (int_at I7.out t bi HI.out).mono ?_
        rintro e IW8 ⟨rfl, hb⟩
        have I8 := Lib.hid hb
        clear hb
        cases bi with
        | true =>
          obtain rfl : bf = true := by rw [← HF.out]; exact HIF.out HI.out
          go_wp2_with fail
          refine (flo_at I8.out t (by omega) true HF.out).mono ?_
          rintro e JW0 ⟨rfl, hb⟩
          have J0 := Lib.hid hb
          clear hb
          go_wp2_with fail
          go_meet
          exact ⟨rfl, J0⟩
        | false =>
          go_wp2_with fail
          go_meet
          exact ⟨rfl, I8⟩
     case rest =>
      obtain ⟨rfl, HBX⟩ := hcut
      cases hn : nullF t.toList with
      | false =>
        have HNU := Lib.hid hn
        clear hn
        go_wp2_with fail
        refine (null_at HBX.out t false HNU.out).mono ?_
        rintro e NW0 ⟨rfl, hb⟩
        have N0 := Lib.hid hb
        clear hb
        go_wp2_with fail
        refine (bool_at N0.out ub false HBB.out).mono ?_
        rintro e RW0 ⟨rfl, hb⟩
        have R0 := Lib.hid hb
        clear hb
        go_wp2_with fail
        refine (null_at R0.out ub false HBN.out).mono ?_
        rintro e RW1 ⟨rfl, hb⟩
        have R1 := Lib.hid hb
        clear hb
        go_wp2_with fail
        refine (int_at R1.out ub false HBI.out).mono ?_
        rintro e RW2 ⟨rfl, hb⟩
        have R2 := Lib.hid hb
        clear hb
        go_wp2_with fail
        refine (flo_at R2.out bu (by omega) false HBF.out).mono ?_
        rintro e RW3 ⟨rfl, hb⟩
        have R3 := Lib.hid hb
        clear hb
        go_wp2_with fail
        refine (wakes_at R3.out).mono ?_
        rintro e RW4 ⟨rfl, hb⟩
        have R4 := Lib.hid hb
        clear hb
        go_wp2_with fail
        go_ret
        exact ⟨rfl, R4.out⟩
      | true =>
        have HNU := Lib.hid hn
        cases he : t.toList.isEmpty with
        | true =>
          clear hn
          go_wp2_with fail
          refine (null_at HBX.out t true HNU.out).mono ?_
          rintro e NW0 ⟨rfl, hb⟩
          have N0 := Lib.hid hb
          clear hb
          go_wp2_with fail
          refine (bool_at N0.out ub false HBB.out).mono ?_
          rintro e RW0 ⟨rfl, hb⟩
          have R0 := Lib.hid hb
          clear hb
          go_wp2_with fail
          refine (null_at R0.out ub false HBN.out).mono ?_
          rintro e RW1 ⟨rfl, hb⟩
          have R1 := Lib.hid hb
          clear hb
          go_wp2_with fail
          refine (int_at R1.out ub false HBI.out).mono ?_
          rintro e RW2 ⟨rfl, hb⟩
          have R2 := Lib.hid hb
          clear hb
          go_wp2_with fail
          refine (flo_at R2.out bu (by omega) false HBF.out).mono ?_
          rintro e RW3 ⟨rfl, hb⟩
          have R3 := Lib.hid hb
          clear hb
          go_wp2_with fail
          refine (wakes_at R3.out).mono ?_
          rintro e RW4 ⟨rfl, hb⟩
          have R4 := Lib.hid hb
          clear hb
          go_wp2_with fail
          go_ret
          exact ⟨rfl, R4.out⟩
        | false =>
          have HX : Hid (nullF ux.toList = false) := by show _ = _; rw [HUX.out]; exact null_x hn he
          clear hn
          go_wp2_with fail
          refine (null_at HBX.out t true HNU.out).mono ?_
          rintro e NW0 ⟨rfl, hb⟩
          have N0 := Lib.hid hb
          clear hb
          go_wp2_with fail
          refine (null_at N0.out ux false HX.out).mono ?_
          rintro e NW1 ⟨rfl, hb⟩
          have N1 := Lib.hid hb
          clear hb
          go_wp2_with fail
          refine (bool_at N1.out ub false HBB.out).mono ?_
          rintro e RW0 ⟨rfl, hb⟩
          have R0 := Lib.hid hb
          clear hb
          go_wp2_with fail
          refine (null_at R0.out ub false HBN.out).mono ?_
          rintro e RW1 ⟨rfl, hb⟩
          have R1 := Lib.hid hb
          clear hb
          go_wp2_with fail
          refine (int_at R1.out ub false HBI.out).mono ?_
          rintro e RW2 ⟨rfl, hb⟩
          have R2 := Lib.hid hb
          clear hb
          go_wp2_with fail
          refine (flo_at R2.out bu (by omega) false HBF.out).mono ?_
          rintro e RW3 ⟨rfl, hb⟩
          have R3 := Lib.hid hb
          clear hb
          go_wp2_with fail
          refine (wakes_at R3.out).mono ?_
          rintro e RW4 ⟨rfl, hb⟩
          have R4 := Lib.hid hb
          clear hb
          go_wp2_with fail
          go_ret
          exact ⟨rfl, R4.out⟩


set_option maxRecDepth 100000 in
theorem lifted (os : Os) (started : os.Started) (H : Type) (enc : TypeId × Value → H) :
    ReturnsInHanded {} Tryd.checked os 6 .any (fun w args => (Rows.schemaSignsSpec.pre enc Tryd.prog Tryd.f6 Rows.schemaSignsRow.domain false w args ∧ laidMetH Tryd.prog Rows.schemaSignsRow.laid w) ∧ sizedMet enc Tryd.prog Tryd.f6 (OpenSpec.ofChange Rows.schemaSignsSpec) false w args)
      (Rows.schemaSignsSpec.post enc Tryd.prog Tryd.f6 false true false false) := by
  refine returns_listed (C := Tryd.checked) (X := fun w _ => laidMetH Tryd.prog Rows.schemaSignsRow.laid w) (fun _ _ _ hh h => h.of_heap hh) own started (by kernel_rfl) Tryd.func6
    (ChangeSpec.witness_shaped (enc := enc) (C := Tryd.checked) (os := os) (X := fun w _ => laidMetH Tryd.prog Rows.schemaSignsRow.laid w) false (World.laidAll Tryd.prog os Rows.schemaSignsRow.laid) #[.string ByteArray.empty, .slice none 0 0, .bool false] 8 (World.laidAll_os _ _ _)
      (World.shaped_of_ZipB (by kernel_rfl) (by kernel_rfl)) (by kernel_rfl) (by kernel_rfl) (by kernel_rfl)
      (by rw [MakeChecks.laidMetH_plain _ _ _ (by kernel_rfl)]; exact laidMet_laidAll _ (by kernel_rfl) (by kernel_rfl))) ?_
  intro W base args ds gs before hval0 hW hX hsh
  have hval : ∀ (j : Nat) t v, Tryd.f6.params[j]? = some t → args[j]? = some v → Value.okWide Tryd.prog W .any base t v := hval0
  have hW' := hW
  obtain ⟨p, q, hA0, hV, rfl, hfz, hnd⟩ := hW
  have hA : DataW.TrodAll enc Tryd.prog W 0 (fun _ => true) true Tryd.f6.params.toList args.toList ds p := hA0
  rw [Tryd.params6] at hA hval
  obtain ⟨v0, vs0, d0, ds0, p0, q0, hargs, rfl, rfl, h0, r0⟩ := trodAll_cons hA
  obtain ⟨v1, vs1, d1, ds1, p1, q1, rfl, rfl, rfl, h1, r1⟩ := trodAll_cons r0
  obtain ⟨v2, vs2, d2, ds2, p2, q2, rfl, rfl, rfl, h2, r2⟩ := trodAll_cons r1
  obtain ⟨rfl, rfl, rfl⟩ := trodAll_nil r2
  obtain rfl : args = #[v0, v1, v2] := by cases args; simp_all
  obtain ⟨rfl, rfl⟩ := trodVars_none hV
  obtain ⟨a0, rfl, rfl, rfl, w0⟩ := open_string Tryd.underlying9 (hval 0 9 v0 rfl rfl) h0
  obtain ⟨a1, len1, cap1, rfl⟩ := okWide_slice Tryd.underlying28 (hval 1 28 v1 rfl rfl)
  have k1 := h1
  have lt1 : ∀ x ∈ p1, x.block < W.heap.size := by obtain ⟨m, hm⟩ := k1; exact DataW.trod_lt m _ _ _ hm
  obtain ⟨z1, w1⟩ : ∃ zs, IsRow .i64 W a1 len1 cap1 zs := by
    obtain ⟨fuel, hf⟩ := h1
    rcases open_ints Tryd.underlying28 Tryd.underlying3 (by kernel_rfl) hf with ⟨hcs, _⟩ | ⟨x, l, c, zs, hcs, _, hl, hm, hz, _, hcell, hwz⟩
    · simp [Value.cells] at hcs
      obtain ⟨rfl, rfl, rfl⟩ := hcs
      exact ⟨[], .inl ⟨rfl, rfl, rfl, rfl⟩⟩
    · simp [Value.cells] at hcs
      obtain ⟨rfl, rfl, rfl⟩ := hcs
      exact ⟨zs, .inr ⟨_, rfl, hl, hm, by simpa using hz, hcell, hwz⟩⟩
  obtain ⟨a2, rfl, rfl, rfl⟩ := open_bool Tryd.underlying4 (hval 2 4 v2 rfl rfl) h2
  clear hA0 hval0
  refine (walk a0 a1 len1 cap1 z1 a2 W w0 w1 (trivial)).mono fun e W' ⟨he, bel⟩ => ?_
  subst he
  exact ⟨_, rfl, _, _, _, [], _, [], hW', trodAll_mk1 (shut_bool Tryd.underlying4 _), (trodAll_cons_mk (shut_string Tryd.underlying9 w0) (trodAll_cons_mk (Below.trod laidOut (by kernel_rfl) (of_decide_eq_true (by kernel_rfl)) k1 bel lt1) (trodAll_cons_mk (shut_bool Tryd.underlying4 _) trodAll_mk0))), rfl, bel.frame _, fun h => by cases h⟩

theorem over : Rows.schemaSignsRow.holds Tryd.pinned (OpenSpec.ofChange Rows.schemaSignsSpec) :=
  OpenClaim.holds_of_wide 6 Tryd.f6 rfl rfl rfl rfl rfl rfl rfl ⟨rfl, rfl, rfl, rfl, rfl⟩ rfl rfl rfl rfl rfl (by kernel_rfl) Tryd.func6 (by kernel_rfl)
    (of_decide_eq_true (by kernel_rfl)) (by unfold Func.isWrapper; first | (rw [if_pos (by decide +kernel)]; kernel_rfl) | (rw [if_neg (by decide +kernel)]; exact ⟨rfl, rfl⟩))
    (fun os started H enc _ => lifted os started H enc)

theorem proved : Rows.SchemaSignsCardSaid :=
  Claim7.holds_tied_plain_at .later [] [.data, .pinned] true (true, "12ba9469dea4a61ed39d4fd763e582fde901584c9749bd5f353be433d1f306d1") false over (fun _ h => by cases h) (by kernel_rfl) (fun _ h => by cases h) schemaSigns_row_tie rfl ⟨rfl, rfl⟩ (by kernel_rfl) rfl
    (fun f fn hf hfn => by
      obtain rfl : f = 6 := Option.some.inj ((show Tryd.prog.funcNamed Rows.schemaSignsRow.func = some 6 by kernel_rfl).symm.trans hf) |>.symm
      obtain rfl : fn = Tryd.f6 := (Option.some.inj (Tryd.func6.symm.trans hfn)).symm
      exact ⟨by kernel_rfl, fun j t ht => by
        rw [Tryd.params6] at ht
        have hm : t ∈ [9, 28, 4] := by simpa using Array.mem_of_getElem? ht
        have hall : ([9, 28, 4].all fun u => !Tryd.prog.wantsStandIn u) = true := by kernel_rfl
        exact (show Tryd.prog.wantsStandIn t = false by simpa using List.all_eq_true.1 hall t hm)⟩)
    (by kernel_rfl)
#print axioms proved
end Go.Proofs.YtijclnjiibblaaaDoor.schemaSigns
