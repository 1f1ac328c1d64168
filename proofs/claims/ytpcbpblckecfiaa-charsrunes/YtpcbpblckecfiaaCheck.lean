/- Check: the plain function, and its contract. -/
import Derived.Test.YtpcbpblckecfiaaMem
import Derived.Lib.SlBytesConst
namespace Go.Proofs.Ytpcbpblckecfiaa
open Go.RowKit
set_option linter.unusedVariables false

def badAt (zs : List Int) : Bool := !(runeF zs).2.2 || !prt (runeF zs).1 || ((runeF zs).1 == 13 && !brk zs)
def chk : Nat → List Int → Int → Int × Int
  | 0, _, _ => (0, 0)
  | f + 1, zs, k => if zs = [] then (0, 0) else if badAt zs = true then (k, 1) else chk f (zs.drop (runeF zs).2.1.toNat) (k + (runeF zs).2.1)
def checkF (zs : List Int) : Int × Int :=
  if 65536 < zs.length then (65536, 10) else if mrk zs = true then chk zs.length (zs.drop 3) 3 else chk zs.length zs 0

theorem runeF_n (zs : List Int) (h : zs ≠ []) : 1 ≤ (runeF zs).2.1 ∧ (runeF zs).2.1 ≤ zs.length ∧ (runeF zs).2.1 ≤ 4 := by
  cases zs with
  | nil => exact absurd rfl h
  | cons c t =>
    have h4 : ldN c ≤ 4 := by rcases ldN_cases c with e | e | e | e | e <;> omega
    have h0 : ldN c ≠ 0 → 1 ≤ ldN c := by rcases ldN_cases c with e | e | e | e | e <;> omega
    simp only [runeF]
    split
    · simp; omega
    · rename_i hs
      split
      · simp; omega
      · split
        · simp; omega
        · refine ⟨?_, ?_, ?_⟩ <;> simp only [] <;> omega

theorem chk_fuel : ∀ (f g : Nat) (zs : List Int) (k : Int), zs.length ≤ f → zs.length ≤ g → chk f zs k = chk g zs k := by
  intro f
  induction f with
  | zero =>
    intro g zs k h1 h2
    have : zs = [] := List.eq_nil_of_length_eq_zero (by omega)
    subst this
    cases g <;> simp [chk]
  | succ f ih =>
    intro g zs k h1 h2
    cases g with
    | zero =>
      have : zs = [] := List.eq_nil_of_length_eq_zero (by omega)
      subst this
      simp [chk]
    | succ g =>
      simp only [chk]
      split
      · rfl
      · rename_i hne
        split
        · rfl
        · have := runeF_n zs hne
          exact ih g _ _ (by rw [List.length_drop]; omega) (by rw [List.length_drop]; omega)

theorem chk_bad (n : Nat) (zs : List Int) (k : Int) (h1 : zs.length ≤ n) (hne : zs ≠ []) (hb : badAt zs = true) : chk n zs k = (k, 1) := by
  cases n with
  | zero => exact absurd (List.eq_nil_of_length_eq_zero (by omega)) hne
  | succ n => simp only [chk]; rw [if_neg hne, if_pos hb]
theorem chk_good (n : Nat) (zs : List Int) (k : Int) (h1 : zs.length ≤ n) (hne : zs ≠ []) (hb : badAt zs = false) : chk n zs k = chk n (zs.drop (runeF zs).2.1.toNat) (k + (runeF zs).2.1) := by
  cases n with
  | zero => exact absurd (List.eq_nil_of_length_eq_zero (by omega)) hne
  | succ n =>
    have := runeF_n zs hne
    rw [chk, if_neg hne, if_neg (by simp [hb])]
    exact chk_fuel _ _ _ _ (by rw [List.length_drop]; omega) (by rw [List.length_drop]; omega)
theorem chk_nil (n : Nat) (k : Int) : chk n [] k = (0, 0) := by cases n <;> simp [chk]

theorem RdB.drop {w : World} {b off : Nat} {zs : List Int} (h : RdB w (some ⟨b, off, none⟩) zs) (m : Nat) : RdB w (some ⟨b, off + m, none⟩) (zs.drop m) := by
  intro k z hz
  rw [List.getElem?_drop] at hz
  obtain ⟨b', off', e, hc⟩ := h _ z hz
  injection e with e
  injection e with e1 e2
  subst e1 e2
  exact ⟨b, off + m, rfl, by rw [Nat.add_assoc]; exact hc⟩
theorem Byte.drop {zs : List Int} (h : Byte zs) (m : Nat) : Byte (zs.drop m) := fun z hz => h z (List.mem_of_mem_drop hz)

def retCheck (p : Int × Int) : Ending := .returned (.tuple #[.int .i64 p.1, .int .i64 p.2])

set_option maxHeartbeats 1000000 in
theorem check_limit (A : Option Addr) (n cap : Nat) (w : World) (hnc : n ≤ cap) (hm : cap ≤ 9223372036854775807) (h : 65536 < n) :
    Calls Try.prog 18 #[.slice A n cap] w fun e w' => e = retCheck (65536, 10) ∧ w = w' := by
  have d : (65536 : Int) < (n : Int) := by omega
  go_enter Try.func18, Try.ntmps18
  go_wp2
  go_ret2
  exact ⟨rfl, rfl⟩

theorem rune_at (b off n cap : Nat) (ys : List Int) (w : World) (r : Int) (j : Nat) (ok : Bool) (hl : ys.length = n) (hnc : n ≤ cap) (hm : cap ≤ 9223372036854775807) (hb : Byte ys) (hr : RdB w (some ⟨b, off, none⟩) ys) (hf : runeF ys = (r, (j : Int), ok)) :
    Calls Try.prog 14 #[.slice (some ⟨b, off, none⟩) n cap] w fun e w' => e = .returned (.tuple #[.int .i32 r, .int .i64 (j : Int), .bool ok]) ∧ w = w' := by
  have := rune_any _ n cap ys w hl hnc hm hb hr
  rw [hf] at this
  exact this

theorem chk_round (n k : Nat) (zs : List Int) (hl : zs.length = n) (hk : k < n) : ∃ (r : Int) (j : Nat) (ok : Bool), runeF (zs.drop k) = (r, (j : Int), ok) ∧ 1 ≤ j ∧ k + j ≤ n ∧
    ((ok = false ∨ prt r = false ∨ ((r == 13) = true ∧ brk (zs.drop k) = false)) → chk n (zs.drop k) k = ((k : Int), 1)) ∧
    (ok = true → prt r = true → ((r == 13) = false ∨ brk (zs.drop k) = true) → chk n (zs.drop k) k = chk n (zs.drop (k + j)) ((k + j : Nat) : Int)) := by
  have hne : zs.drop k ≠ [] := by intro h; have := congrArg List.length h; rw [List.length_drop] at this; simp at this; omega
  have hlen : (zs.drop k).length ≤ n := by rw [List.length_drop]; omega
  have hn := runeF_n _ hne
  rw [List.length_drop] at hn
  refine ⟨(runeF (zs.drop k)).1, (runeF (zs.drop k)).2.1.toNat, (runeF (zs.drop k)).2.2, ?_, by omega, by omega, ?_, ?_⟩
  · rw [Int.toNat_of_nonneg (by omega)]
  · intro h
    refine chk_bad n _ k hlen hne ?_
    unfold badAt
    rcases h with h | h | ⟨h, h'⟩
    · rw [h]; rfl
    · rw [h]; simp
    · rw [h, h']; simp
  · intro h1 h2 h3
    rw [chk_good n _ k hlen hne ?_]
    · rw [List.drop_drop]
      have e : (k : Int) + (runeF (zs.drop k)).2.1 = ((k + (runeF (zs.drop k)).2.1.toNat : Nat) : Int) := by omega
      rw [e]
    · unfold badAt
      rw [h1, h2]
      rcases h3 with h3 | h3 <;> rw [h3] <;> simp

set_option maxHeartbeats 4000000 in
theorem check_some (b off : Nat) (n cap : Nat) (zs : List Int) (w : World) (hl : zs.length = n) (hnc : n ≤ cap) (hm : cap ≤ 9223372036854775807) (hb : Byte zs) (hr : RdB w (some ⟨b, off, none⟩) zs) (h : n ≤ 65536) :
    Calls Try.prog 18 #[.slice (some ⟨b, off, none⟩) n cap] w fun e w' => e = retCheck (checkF zs) ∧ w = w' := by
  have d : decide ((65536 : Int) < (n : Int)) = false := decide_eq_false (by omega)
  have HL := Lib.hid hl
  have HB := Lib.hid hb
  have HR := Lib.hid hr
  obtain ⟨m, hmk, hm3, hF⟩ : ∃ m : Nat, m ≤ n ∧ (mrk zs = true ∧ m = 3 ∨ mrk zs = false ∧ m = 0) ∧ checkF zs = chk n (zs.drop m) m := by
    cases hmr : mrk zs
    · refine ⟨0, by omega, .inr ⟨rfl, rfl⟩, ?_⟩
      unfold checkF; rw [if_neg (by omega), if_neg (by simp [hmr])]; simp [hl]
    · refine ⟨3, ?_, .inl ⟨rfl, rfl⟩, ?_⟩
      · unfold mrk at hmr; simp at hmr; omega
      · unfold checkF; rw [if_neg (by omega), if_pos hmr]; simp [hl]
  have HF := Lib.hid hF
  clear hF hl hb hr
  rcases hm3 with ⟨hmr, rfl⟩ | ⟨hmr, rfl⟩
  all_goals
    go_enter Try.func18, Try.ntmps18
    go_wp2_with (go_at_call 29; refine (marked_any _ _ _ zs _ HL.out (by omega) (by omega) HR.out).mono ?_; rintro e w' ⟨rfl, rfl⟩)
    clear hmr
    go_loop [2, 3] (fun a e => ∃ k : Nat, k ≤ n ∧ a = .int .i64 k ∧ e = .int .i64 0 ∧ Hid (checkF zs = chk n (zs.drop k) k)) (fun a _ => n - (intOf a).toNat)
    case atStart => exact ⟨_, hmk, rfl, rfl, HF⟩
    case round =>
      obtain ⟨k, hk, rfl, rfl, HA⟩ := hrel
      clear HF
      by_cases hlt : k < n
      · obtain ⟨r, j, ok, hrf, hj1, hj2, hbad, hgood⟩ := chk_round n k zs HL.out hlt
        have hly : (zs.drop k).length = n - k := by rw [List.length_drop, HL.out]
        have cr := fun W hW => rune_at b (off + k) (n - k) (cap - k) (zs.drop k) W r j ok hly (by omega) (by omega) (HB.out.drop k) hW hrf
        have cb := fun W hW => breaks_any (some ⟨b, off + k, none⟩) (n - k) (cap - k) (zs.drop k) W hly (by omega) (by omega) hW
        have CR := Lib.hid cr
        have CB := Lib.hid cb
        have HBAD := Lib.hid hbad
        have HGOOD := Lib.hid hgood
        clear cr cb hbad hgood hrf hly
        generalize hbr : brk (zs.drop k) = bk at *
        clear hbr
        cases ok
        · have hfin : checkF zs = ((k : Int), 1) := by rw [HA.out]; exact HBAD.out (.inl rfl)
          have HFIN := Lib.hid hfin
          clear hfin HBAD HGOOD
          go_wp2_with (go_at_call 14; refine (CR.out _ (HR.out.drop k)).mono ?_; rintro e w' ⟨rfl, rfl⟩)
          go_ret2
          exact ⟨by rw [HFIN.out]; rfl, rfl⟩
        · cases hp : prt r
          · have hfin : checkF zs = ((k : Int), 1) := by rw [HA.out]; exact HBAD.out (.inr (.inl hp))
            have HFIN := Lib.hid hfin
            clear hfin HBAD HGOOD
            go_wp2_with (first | (go_at_call 14; refine (CR.out _ (HR.out.drop k)).mono ?_; rintro e w' ⟨rfl, rfl⟩) | (go_at_call 12; refine (prt_any _ _).mono ?_; rintro e w' ⟨rfl, rfl⟩))
            go_ret2
            exact ⟨by rw [HFIN.out]; rfl, rfl⟩
          · cases h13 : (r == 13)
            · have hfin : checkF zs = chk n (zs.drop (k + j)) ((k + j : Nat) : Int) := by rw [HA.out]; exact HGOOD.out rfl hp (.inl h13)
              have HFIN := Lib.hid hfin
              clear hfin HBAD HGOOD
              go_wp2_with (first | (go_at_call 14; refine (CR.out _ (HR.out.drop k)).mono ?_; rintro e w' ⟨rfl, rfl⟩) | (go_at_call 12; refine (prt_any _ _).mono ?_; rintro e w' ⟨rfl, rfl⟩))
              go_round
              case rel => exact ⟨k + j, hj2, by go_num, rfl, HFIN⟩
              case measure => simp [intOf]; omega
            · cases bk
              · have hfin : checkF zs = ((k : Int), 1) := by rw [HA.out]; exact HBAD.out (.inr (.inr ⟨h13, rfl⟩))
                have HFIN := Lib.hid hfin
                clear hfin HBAD HGOOD
                go_wp2_with (first | (go_at_call 14; refine (CR.out _ (HR.out.drop k)).mono ?_; rintro e w' ⟨rfl, rfl⟩) | (go_at_call 12; refine (prt_any _ _).mono ?_; rintro e w' ⟨rfl, rfl⟩) | (go_at_call 30; refine (CB.out _ (HR.out.drop k)).mono ?_; rintro e w' ⟨rfl, rfl⟩))
                go_ret2
                exact ⟨by rw [HFIN.out]; rfl, rfl⟩
              · have hfin : checkF zs = chk n (zs.drop (k + j)) ((k + j : Nat) : Int) := by rw [HA.out]; exact HGOOD.out rfl hp (.inr rfl)
                have HFIN := Lib.hid hfin
                clear hfin HBAD HGOOD
                go_wp2_with (first | (go_at_call 14; refine (CR.out _ (HR.out.drop k)).mono ?_; rintro e w' ⟨rfl, rfl⟩) | (go_at_call 12; refine (prt_any _ _).mono ?_; rintro e w' ⟨rfl, rfl⟩) | (go_at_call 30; refine (CB.out _ (HR.out.drop k)).mono ?_; rintro e w' ⟨rfl, rfl⟩))
                go_round
                case rel => exact ⟨k + j, hj2, by go_num, rfl, HFIN⟩
                case measure => simp [intOf]; omega
      · have hfin : checkF zs = (0, 0) := by
          rw [HA.out, List.drop_of_length_le (by rw [HL.out]; omega)]; exact chk_nil _ _
        have HFIN := Lib.hid hfin
        clear hfin
        go_wp2
        go_ret2
        exact ⟨by rw [HFIN.out]; rfl, rfl⟩

set_option maxHeartbeats 1000000 in
theorem check_nil (A : Option Addr) (cap : Nat) (w : World) (hm : cap ≤ 9223372036854775807) :
    Calls Try.prog 18 #[.slice A 0 cap] w fun e w' => e = retCheck (0, 0) ∧ w = w' := by
  have hr : RdB w A [] := fun k z h => by simp at h
  have hmr : mrk [] = false := rfl
  go_enter Try.func18, Try.ntmps18
  go_wp2_with (go_at_call 29; refine (marked_any A 0 cap [] w rfl (by omega) hm hr).mono ?_; rintro e w' ⟨rfl, rfl⟩)
  go_loop [2, 3] (fun a e => a = .int .i64 0 ∧ e = .int .i64 0) (fun _ _ => 0)
  case atStart => exact ⟨rfl, rfl⟩
  case round =>
    obtain ⟨rfl, rfl⟩ := hrel
    go_wp2
    go_ret2
    exact ⟨rfl, rfl⟩

theorem check_any (A : Option Addr) (n cap : Nat) (zs : List Int) (w : World) (hl : zs.length = n) (hnc : n ≤ cap) (hm : cap ≤ 9223372036854775807) (hb : Byte zs) (hr : RdB w A zs) :
    Calls Try.prog 18 #[.slice A n cap] w fun e w' => e = retCheck (checkF zs) ∧ w = w' := by
  by_cases hlim : 65536 < n
  · have : checkF zs = (65536, 10) := by unfold checkF; rw [if_pos (by omega)]
    rw [this]
    exact check_limit A n cap w hnc hm hlim
  · by_cases h0 : n = 0
    · subst h0
      have : zs = [] := List.eq_nil_of_length_eq_zero hl
      subst this
      exact check_nil A cap w hm
    · obtain ⟨b, off, rfl, _⟩ := hr.addr (by omega)
      exact check_some b off n cap zs w hl hnc hm hb hr (by omega)

/-- Check, its answer named. -/
theorem check_at (A : Option Addr) (n cap : Nat) (zs : List Int) (w : World) (hl : zs.length = n) (hnc : n ≤ cap) (hm : cap ≤ 9223372036854775807) (hb : Byte zs) (hr : RdB w A zs) (x y : Int) (hf : checkF zs = (x, y)) :
    Calls Try.prog 18 #[.slice A n cap] w fun e w' => e = .returned (.tuple #[.int .i64 x, .int .i64 y]) ∧ w = w' := by
  have := check_any A n cap zs w hl hnc hm hb hr
  rw [hf] at this
  exact this

theorem RdB.new {w : World} {cs : Array Value} {T : TypeId} {fz : Nat × Nat} {zs : List Int} {g : Nat} (hg : g = w.heap.size) (h : ∀ (k : Nat) (z : Int), zs[k]? = some z → cs[k]? = some (Value.int .u8 z)) : RdB (w.alloc (.cells cs T fz)) (some ⟨g, 0, none⟩) zs := by
  subst hg
  intro k z hz
  refine ⟨_, _, rfl, ?_⟩
  rw [Nat.zero_add, World.cell?_alloc_mark]
  exact h k z hz

theorem RdB.below {w w' : World} {A : Option Addr} {zs : List Int} (h : RdB w A zs) (hb : Below w.heap.size w w') : RdB w' A zs := by
  intro k z hz
  obtain ⟨b, off, e, hc⟩ := h k z hz
  exact ⟨b, off, e, by rw [hb.cell (p := ⟨b, off + k, none⟩) (World.block_lt_of_cell? _ _ hc)]; exact hc⟩

theorem two_at {x y : Int} : ∀ (k : Nat) (z : Int), [x, y][k]? = some z → (#[Value.int .u8 x, .int .u8 y] : Array Value)[k]? = some (Value.int .u8 z) := by
  intro k z h
  match k with
  | 0 => simp at h; subst h; rfl
  | 1 => simp at h; subst h; rfl
  | k + 2 => simp at h

set_option maxHeartbeats 1000000 in
theorem wakes_any (w : World) : Calls Try.prog 13 #[] w fun e w' => e = .returned (.bool true) ∧ Below w.heap.size w w' := by
  have kc := fun (w : World) (C : Array Value) (n c : Nat) => Lib.run_convert_bytes_const (P := Try.prog) w 27 5 C n c Try.underlying27 Try.underlying5
  have kc2 : ∀ (o : Obj) (C : Array Value) (n c : Nat), (convert 27 27 (.slice (some ⟨w.heap.size + 1, 0, none⟩) n c)).run Try.prog ((w.alloc o).alloc (.cells C 5)) = .ok (.slice (some ⟨w.heap.size + 1, 0, none⟩) n c) ((w.alloc o).alloc (.cells C 5 (C.size, C.size + 1))) := fun o C n c => by
    have := kc (w.alloc o) C n c
    rwa [show (w.alloc o).heap.size = w.heap.size + 1 by simp] at this
  clear kc
  have hc1 : checkF [97, 0] = (1, 1) := by decide +kernel
  have hc2 : runeF [195, 169] = (233, ((2 : Nat) : Int), true) := by decide +kernel
  have hc3 : nameF (byt ⟨#[97, 45, 49, 95, 98]⟩) = true := by decide +kernel
  have H1 := Lib.hid hc1
  have H2 := Lib.hid hc2
  have H3 := Lib.hid hc3
  clear hc1 hc2 hc3
  have b1 : Byte [97, 0] := by intro z hz; simp at hz; omega
  have b2 : Byte [195, 169] := by intro z hz; simp at hz; omega
  go_enter Try.func13, Try.ntmps13
  go_wp2_with fail
  refine (check_at _ 2 2 [97, 0] _ rfl (by omega) (by omega) b1 (by exact RdB.new (by simp) two_at) 1 1 H1.out).mono ?_
  rintro e w1 ⟨rfl, rfl⟩
  go_wp2_with fail
  refine (rune_at _ _ 2 2 [195, 169] _ 233 2 true rfl (by omega) (by omega) b2 (by exact RdB.new (by simp) two_at) H2.out).mono ?_
  rintro e w1 ⟨rfl, rfl⟩
  go_wp2_with fail
  refine (name_any _ _ (by decide +kernel)).mono ?_
  rintro e w1 ⟨rfl, rfl⟩
  rw [H3.out]
  go_wp2
  go_ret
  exact ⟨rfl, ((Below.refl _ _).alloc (Nat.le_refl _) _).alloc (by simp) _⟩
end Go.Proofs.Ytpcbpblckecfiaa
