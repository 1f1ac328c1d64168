/- fold.folded, fold.Value: the text that rows stand for. -/
import Derived.Test.YtodnfdkcmhiljaaFdBet
namespace Go.Proofs.Ytodnfdkcmhiljaa
open Go.RowKit
set_option linter.unusedVariables false

/-- A builder of our own that holds a text. -/
def Bld (B b : Nat) (out : ByteArray) (W : World) : Prop := Lib.IsBuilder 79 5 B b (Lib.strCells out) W
theorem Bld.below {B b : Nat} {out : ByteArray} {W W' : World} (h : Bld B b out W) (hb : Below W.heap.size W W') : Bld B b out W' := by
  have key : ∀ p, Lib.BuilderAt 79 5 B b p (Lib.strCells out) W → Lib.BuilderAt 79 5 B b p (Lib.strCells out) W' := by
    intro p hp
    have hlt := hp.lt
    obtain ⟨h1, v, h2, h3, h4⟩ := hp
    exact ⟨h1, v, (hb.block b hlt).trans h2, own_below h3 hb, h4⟩
  rcases h with h | h
  · exact .inl (key _ h)
  · exact .inr (key _ h)
theorem strCells_append (a b : ByteArray) : Lib.strCells (a ++ b) = Lib.strCells a ++ Lib.strCells b := by simp [Lib.strCells]
theorem write_any (B b : Nat) (out s : ByteArray) (W : World) (h : Bld B b out W) (hl : out.size + s.size ≤ 100000000) (hB : B ≤ W.heap.size) :
    Calls Try.prog 44 #[.pointer (some ⟨b, 0, none⟩), .string s] W fun e W' => e = .returned (.tuple #[.int .i64 s.size, .nilIface]) ∧ Bld B b (out ++ s) W' ∧ Below B W W' :=
  (Try.Builder_WriteString B b _ s W h (by rw [Lib.strCells_length]; omega) hB).mono fun e W' ⟨he, hb, hw⟩ => ⟨he, .inr (by rw [strCells_append]; exact hb), hw⟩
theorem told_any (B b : Nat) (out : ByteArray) (W : World) (h : Bld B b out W) (hB : B ≤ W.heap.size) :
    Calls Try.prog 46 #[.pointer (some ⟨b, 0, none⟩)] W fun e W' => e = .returned (.string out) ∧ Below B W W' :=
  (Try.Builder_String_any B b out.data.toList W h hB).mono fun e W' ⟨he, hw⟩ => ⟨by rw [he], hw⟩

theorem betw_len (a b : List Int) (k : Nat) : (betw a b k).length ≤ k + 1 := by
  unfold betw brs; split
  · simp
  · split
    · simp
    · split <;> simp

set_option maxHeartbeats 4000000 in
theorem folded_any (A : Option Addr) (n c : Nat) (l : List ByteArray) (w : World) (hl : l.length = n) (hnc : n ≤ c) (hn : n ≤ 1000) (hs : ∀ s ∈ l, s.size ≤ 1000) (hr : RdC w A (l.map Value.string)) :
    Calls Try.prog 28 #[.slice A n c] w (TxtP (foldF [] 0 (l.map byt)) w) := by
  have HR := Lib.hid hr
  have HS := Lib.hid hs
  have HL := Lib.hid hl
  clear hr hs hl
  go_enter Try.func28, Try.ntmps28
  go_wp2_with fail
  go_loopw [4, 5, 10] (fun a e i W => ∃ (j k : Nat) (last out : ByteArray), j ≤ n ∧ k ≤ j ∧ a = .string last ∧ e = .int .i64 (k : Int) ∧ i = .int .i64 (j : Int) ∧
      Hid (byt out ++ foldF (byt last) k ((l.map byt).drop j) = foldF [] 0 (l.map byt) ∧ out.size ≤ j * 2100 ∧ Bld w.heap.size w.heap.size out W ∧ Below w.heap.size w W)) (fun _ _ i _ => n - (intOf i).toNat)
  case atStart =>
    refine ⟨0, 0, ⟨#[]⟩, ⟨#[]⟩, by omega, by omega, rfl, rfl, rfl, ?_, by decide, .inl ⟨Nat.le_refl _, .slice none 0 0, ?_, own_nil _ _ _ _, by simp [Value.ownBlock]⟩, (Below.refl _ _).alloc (Nat.le_refl _) _⟩
    · simp [byt]
    · exact heap_alloc_new w _
  case round =>
    obtain ⟨j, k, last, out, hj, hkj, rfl, rfl, rfl, HK⟩ := hrel
    by_cases hlt : j < n
    · obtain ⟨b, off, rfl, hc⟩ := HR.out.addr (by simp; rw [HL.out]; omega)
      obtain ⟨s, hsj⟩ : ∃ s, l[j]? = some s := ⟨_, List.getElem?_eq_getElem (by rw [HL.out]; exact hlt)⟩
      have hcell0 := hc j (.string s) (by simp [hsj])
      have hcell : wr.cell? ⟨b, off + j, none⟩ = some (.string s) := by rw [HK.out.2.2.2.cell (p := ⟨b, off + j, none⟩) (World.block_lt_of_cell? _ _ hcell0)]; exact hcell0
      have hss : s.size ≤ 1000 := HS.out s (List.mem_of_getElem? hsj)
      have hdr : (l.map byt).drop j = byt s :: (l.map byt).drop (j + 1) := by
        rw [List.drop_eq_getElem_cons (by simp; rw [HL.out]; exact hlt)]
        congr 1
        have := List.getElem?_eq_some_iff.1 hsj
        obtain ⟨h1, h2⟩ := this
        simp [h2]
      have HD := Lib.hid hdr
      clear hdr hc hcell0 hsj
      have d1 : (j : Int) < (n : Int) := by omega
      rcases empty_or s with ⟨rfl, hz⟩ | ⟨hs0, hz, hne⟩
      · have HZ := Lib.hid hz
        clear hz
        go_wp2_with fail
        go_roundw
        case rel =>
          refine ⟨j + 1, k + 1, last, out, by omega, by omega, rfl, by go_num, by go_num, ?_, Nat.le_trans HK.out.2.1 (Nat.mul_le_mul_right _ (by omega)), HK.out.2.2.1, HK.out.2.2.2⟩
          rw [← HK.out.1, HD.out, HZ.out]; simp [foldF]
        case measure => simp [intOf]; omega
      · have HZ := Lib.hid hz
        clear hz
        go_wp2_with fail
        refine (between_any last s k (by omega) hs0 wr).mono ?_
        rintro e W1 ⟨t, ht, rfl, hb1⟩
        have hts : t.size ≤ k + 1 := by rw [← byt_len, ht]; exact betw_len _ _ _
        have HT := Lib.hid ht
        have HB1 := Lib.hid (And.intro (HK.out.2.2.1.below hb1) (HK.out.2.2.2.trans (hb1.mono HK.out.2.2.2.size)))
        have hos : out.size ≤ j * 2100 := HK.out.2.1
        have hos2 : out.size ≤ 2100000 := by omega
        clear ht hb1
        go_wp2_with fail
        refine (write_any w.heap.size w.heap.size out t W1 HB1.out.1 (by omega) HB1.out.2.size).mono ?_
        rintro e W2 ⟨rfl, hB2, hb2⟩
        have HB2 := Lib.hid (And.intro hB2 (HB1.out.2.trans hb2))
        clear hB2 hb2
        go_wp2_with fail
        refine (write_any w.heap.size w.heap.size (out ++ t) s W2 HB2.out.1 (by rw [ByteArray.size_append]; omega) HB2.out.2.size).mono ?_
        rintro e W3 ⟨rfl, hB3, hb3⟩
        have HB3 := Lib.hid (And.intro hB3 (HB2.out.2.trans hb3))
        clear hB3 hb3
        go_wp2_with fail
        go_roundw
        case rel =>
          refine ⟨j + 1, 0, s, out ++ t ++ s, by omega, by omega, rfl, rfl, by go_num, ?_, by simp only [ByteArray.size_append]; omega, HB3.out.1, HB3.out.2⟩
          rw [← HK.out.1, HD.out, byt_append, byt_append, HT.out]
          simp only [foldF]
          rw [if_neg HZ.out]
          simp
        case measure => simp [intOf]; omega
    · have hjn : j = n := by omega
      have d1 : decide ((j : Int) < (n : Int)) = false := decide_eq_false (by omega)
      go_wp2_with fail
      refine (told_any w.heap.size w.heap.size out wr HK.out.2.2.1 HK.out.2.2.2.size).mono ?_
      rintro e W1 ⟨rfl, hb1⟩
      have HB1 := Lib.hid (HK.out.2.2.2.trans hb1)
      clear hb1
      go_wp2
      go_ret
      refine ⟨out, ?_, rfl, HB1.out⟩
      have := HK.out.1
      rw [List.drop_eq_nil_of_le (by simp; rw [HL.out]; omega)] at this
      simpa [foldF] using this
theorem foldF_len (m : Nat) : ∀ (l : List (List Int)) (last : List Int) (k : Nat), (∀ r ∈ l, r.length ≤ m) → (foldF last k l).length ≤ k + l.length * (m + 2) := by
  intro l
  induction l with
  | nil => intro last k _; simp [foldF]
  | cons r t ih =>
    intro last k h
    have h1 := h r (by simp)
    have h2 : ∀ x ∈ t, x.length ≤ m := fun x hx => h x (by simp [hx])
    simp only [foldF, List.length_cons, Nat.succ_mul]
    split
    · have := ih last (k + 1) h2; omega
    · have := ih r 0 h2
      have := betw_len last r k
      simp only [List.length_append]; omega
theorem endN_le (h : Hd) (a b : Nat) : endN h a b ≤ 1 + b := by
  unfold endN
  by_cases h1 : h.st = true
  · rw [if_pos h1]; omega
  · rw [if_neg h1]
    by_cases h2 : 0 < a <;> by_cases h3 : h.ke = true <;> simp [h2, h3] <;> omega
theorem folded_len (m : Nat) (l : List (List Int)) (h : ∀ r ∈ l, r.length ≤ m) : (foldF [] 0 l).length ≤ l.length * (m + 2) := by
  have := foldF_len m l [] 0 h; omega
theorem join_len (m : Nat) (l : List (List Int)) (h : ∀ r ∈ l, r.length ≤ m) : (joinF l).length ≤ l.length * (m + 2) :=
  Nat.le_trans (joinF_len m l h) (Nat.mul_le_mul_left _ (by omega))
theorem text_info : (Try.prog.info? 9).map (fun i => (i.zero, i.size, i.bytes)) = some (some (.string ⟨#[]⟩), 1, 16) := by kernel_rfl
/-- The beginning of a slice of texts. -/
theorem slice_hs (A : Option Addr) (n c hi : Nat) (h2 : hi ≤ n) (hnc : n ≤ c) (hA : A = none → c = 0) :
    ∀ W, (Instr.slice 22 (.slice A n c) none (some (.int .i64 (hi : Int))) none).run Try.prog W = .ok (.slice A hi c) W := by
  intro W
  obtain ⟨i, hi', hz, hs1, _⟩ := info_parts text_info
  have hel : Try.prog.elem 22 = 9 := by kernel_rfl
  have hun : Try.prog.underlying 22 = some (.slice (Try.prog.elem 22)) := by rw [hel]; exact Try.underlying22
  rw [run_slice_h W 22 A n c hun .i64 _ (by omega) (by omega), hel]
  cases A with
  | none =>
    obtain rfl : c = 0 := hA rfl
    obtain rfl : hi = 0 := by omega
    simp [sizeOf, typeInfo, hi', hs1, sliced]
  | some a =>
    simp [sizeOf, typeInfo, hi', hs1, sliced]
    intro _
    unfold Addr.add
    split <;> simp_all
theorem ending_int (h : Hd) (a b : Nat) (u v : Int) (hu : u = (a : Int)) (hv : v = (b : Int)) (ha : a ≤ 100000) (hb : b ≤ 100000) (w : World) :
    Calls Try.prog 30 #[.agg #[.bool h.fo, .bool h.st, .bool h.ke, .int .i64 (h.dg : Int)], .int .i64 u, .int .i64 v] w (TxtP (brs (endN h a b)) w) := by
  subst hv hu; exact ending_any h a b ha hb w

set_option maxHeartbeats 4000000 in
theorem value_true (A : Option Addr) (n c : Nat) (h : Hd) (l : List ByteArray) (w : World) (hl : l.length = n) (hnc : n ≤ c) (hA : A = none → c = 0) (hn : n ≤ 1000) (hs : ∀ s ∈ l, s.size ≤ 1000) (hr : RdC w A (l.map Value.string)) (hfo : h.fo = true) :
    Calls Try.prog 16 #[hdV h, .slice A n c] w (TxtP (valueF h (l.map byt)) w) := by
  have HR := Lib.hid hr
  have HS := Lib.hid hs
  have HL := Lib.hid hl
  have HA := Lib.hid hA
  clear hr hs hl hA
  obtain ⟨fo, st, ke, dg⟩ := h
  obtain rfl : fo = true := hfo
  unfold hdV
  simp only []
  go_enter Try.func16, Try.ntmps16
  go_wp2_with fail
  go_loop [5] (fun i => ∃ j : Nat, j ≤ n ∧ i = .int .i64 (j : Int) ∧ Hid (∀ k, j ≤ k → k < n → (l.map byt).getD k [] = [])) (fun i => (intOf i).toNat)
  case atStart => exact ⟨n, by omega, rfl, fun k h1 h2 => by omega⟩
  case round =>
    obtain ⟨j, hj, rfl, HK⟩ := hrel
    have hsl := slice_hs A n c j hj hnc HA.out
    by_cases h0 : 0 < j
    · obtain ⟨b, off, rfl, hc⟩ := HR.out.addr (by simp; rw [HL.out]; omega)
      obtain ⟨q, rfl⟩ : ∃ q, j = q + 1 := ⟨j - 1, by omega⟩
      obtain ⟨s, hsj⟩ : ∃ s, l[q]? = some s := ⟨_, List.getElem?_eq_getElem (by rw [HL.out]; omega)⟩
      have hcell : w.cell? ⟨b, off + q, none⟩ = some (.string s) := hc q (.string s) (by simp [hsj])
      have hbl : b < w.heap.size := World.block_lt_of_cell? _ _ hcell
      have hgd : (l.map byt).getD q [] = byt s := by simp [List.getD, hsj]
      have d1 : ((q + 1 : Nat) : Int) - 1 = (q : Int) := by omega
      clear hc hsj
      rcases empty_or s with ⟨rfl, hz⟩ | ⟨hs0, hz, hne⟩
      · have HG : Hid (∀ k, q ≤ k → k < n → (l.map byt).getD k [] = []) := by
          intro k h1 h2
          by_cases he : k = q
          · subst he; rw [hgd, hz]
          · exact HK.out k (by omega) h2
        clear hgd hz hsl
        go_wp2_with fail
        go_round
        case rel => exact ⟨q, by omega, by go_num, HG⟩
        case measure => simp [intOf]
      · have hah : ahd (l.map byt) = q + 1 := ahd_eq _ _ (by rw [List.length_map, HL.out]; omega) (fun k h1 h2 => HK.out k h1 (by rw [List.length_map, HL.out] at h2; exact h2)) (fun _ => by rw [show q + 1 - 1 = q by omega, hgd]; exact hz)
        have HAH := Lib.hid hah
        clear hah hgd hz
        have hsl' : ∀ W, (Instr.slice 22 (.slice (some ⟨b, off, none⟩) n c) none (some (.int .i64 ((q : Int) + 1))) none).run Try.prog W = .ok (.slice (some ⟨b, off, none⟩) (q + 1) c) W := fun W => hsl W
        clear hsl
        have hsl := hsl'
        clear hsl'
        go_wp2_with fail
        refine (folded_any (some ⟨b, off, none⟩) (q + 1) c (l.take (q + 1)) (w.alloc (.cells #[.bool true, .bool st, .bool ke, .int .i64 (dg : Int)] 27)) (by rw [List.length_take, HL.out]; omega) (by omega) (by omega) (fun s hs => HS.out s (List.mem_of_mem_take hs)) (by rw [List.map_take]; exact (HR.out.below ((Below.refl _ _).alloc (Nat.le_refl _) _)).take (q + 1))).mono ?_
        rintro e W1 ⟨t, ht, rfl, hb1⟩
        have hblk : W1.heap[w.heap.size]? = some (.cells #[.bool true, .bool st, .bool ke, .int .i64 (dg : Int)] 27) := (hb1.block w.heap.size (by simp)).trans (heap_alloc_new w _)
        have c0 : W1.cell? ⟨w.heap.size, 0, none⟩ = some (.bool true) := by simp [World.cell?, hblk]
        have c1 : W1.cell? ⟨w.heap.size, 1, none⟩ = some (.bool st) := by simp [World.cell?, hblk]
        have c2 : W1.cell? ⟨w.heap.size, 2, none⟩ = some (.bool ke) := by simp [World.cell?, hblk]
        have c3 : W1.cell? ⟨w.heap.size, 3, none⟩ = some (.int .i64 (dg : Int)) := by simp [World.cell?, hblk]
        have HB1 := Lib.hid (below_step ((Below.refl _ _).alloc (Nat.le_refl _) _) hb1)
        have HT := Lib.hid ht
        clear hblk hb1 ht hsl
        have hts : t.size ≤ 1002000 := by
          rw [← byt_len, HT.out]
          have h1 := folded_len 1000 ((l.take (q + 1)).map byt) (fun r hr => (by simp only [List.mem_map] at hr; obtain ⟨s, h1, rfl⟩ := hr; rw [byt_len]; exact HS.out s (List.mem_of_mem_take h1)))
          rw [List.length_map, List.length_take, HL.out] at h1
          exact Nat.le_trans h1 (by omega)
        go_wp2_with fail
        refine (ending_int ⟨true, st, ke, dg⟩ (q + 1) (n - (q + 1)) _ _ (by omega) (by first | omega | (rw [IntWalk.i64_in _ (by omega)]; omega)) (by omega) (by omega) W1).mono ?_
        rintro e W2 ⟨u, hu, rfl, hb2⟩
        have hus : u.size ≤ 2000 := by
          have := endN_le ⟨true, st, ke, dg⟩ (q + 1) (n - (q + 1))
          rw [← byt_len, hu, brs, List.length_replicate]
          omega
        have HU := Lib.hid hu
        have HB2 := Lib.hid hb2
        clear hu hb2
        go_wp2
        go_ret
        refine ⟨_, ?_, rfl, HB1.out.trans (HB2.out.mono HB1.out.size)⟩
        rw [byt_append, HT.out, HU.out]
        unfold valueF
        rw [HAH.out, List.length_map, HL.out, List.map_take]
        rfl
    · obtain rfl : j = 0 := by omega
      have hah : ahd (l.map byt) = 0 := ahd_eq _ _ (by omega) (fun k h1 h2 => HK.out k h1 (by rw [List.length_map, HL.out] at h2; exact h2)) (fun h => by omega)
      have HAH := Lib.hid hah
      clear hah
      have hsl' : ∀ W, (Instr.slice 22 (.slice A n c) none (some (.int .i64 0)) none).run Try.prog W = .ok (.slice A 0 c) W := fun W => hsl W
      clear hsl
      have hsl := hsl'
      clear hsl'
      go_wp2_with fail
      refine (folded_any A (0) c (l.take (0)) (w.alloc (.cells #[.bool true, .bool st, .bool ke, .int .i64 (dg : Int)] 27)) (by rw [List.length_take, HL.out]; omega) (by omega) (by omega) (fun s hs => HS.out s (List.mem_of_mem_take hs)) (by rw [List.map_take]; exact (HR.out.below ((Below.refl _ _).alloc (Nat.le_refl _) _)).take (0))).mono ?_
      rintro e W1 ⟨t, ht, rfl, hb1⟩
      have hblk : W1.heap[w.heap.size]? = some (.cells #[.bool true, .bool st, .bool ke, .int .i64 (dg : Int)] 27) := (hb1.block w.heap.size (by simp)).trans (heap_alloc_new w _)
      have c0 : W1.cell? ⟨w.heap.size, 0, none⟩ = some (.bool true) := by simp [World.cell?, hblk]
      have c1 : W1.cell? ⟨w.heap.size, 1, none⟩ = some (.bool st) := by simp [World.cell?, hblk]
      have c2 : W1.cell? ⟨w.heap.size, 2, none⟩ = some (.bool ke) := by simp [World.cell?, hblk]
      have c3 : W1.cell? ⟨w.heap.size, 3, none⟩ = some (.int .i64 (dg : Int)) := by simp [World.cell?, hblk]
      have HB1 := Lib.hid (below_step ((Below.refl _ _).alloc (Nat.le_refl _) _) hb1)
      have HT := Lib.hid ht
      clear hblk hb1 ht hsl
      have hts : t.size ≤ 1002000 := by
        rw [← byt_len, HT.out]
        have h1 := folded_len 1000 ((l.take (0)).map byt) (fun r hr => (by simp only [List.mem_map] at hr; obtain ⟨s, h1, rfl⟩ := hr; rw [byt_len]; exact HS.out s (List.mem_of_mem_take h1)))
        rw [List.length_map, List.length_take, HL.out] at h1
        exact Nat.le_trans h1 (by omega)
      go_wp2_with fail
      refine (ending_int ⟨true, st, ke, dg⟩ (0) (n - (0)) _ _ (by omega) (by first | omega | (rw [IntWalk.i64_in _ (by omega)]; omega)) (by omega) (by omega) W1).mono ?_
      rintro e W2 ⟨u, hu, rfl, hb2⟩
      have hus : u.size ≤ 2000 := by
        have := endN_le ⟨true, st, ke, dg⟩ (0) (n - (0))
        rw [← byt_len, hu, brs, List.length_replicate]
        omega
      have HU := Lib.hid hu
      have HB2 := Lib.hid hb2
      clear hu hb2
      go_wp2
      go_ret
      refine ⟨_, ?_, rfl, HB1.out.trans (HB2.out.mono HB1.out.size)⟩
      rw [byt_append, HT.out, HU.out]
      unfold valueF
      rw [HAH.out, List.length_map, HL.out, List.map_take]
      rfl

set_option maxHeartbeats 4000000 in
theorem value_false (A : Option Addr) (n c : Nat) (h : Hd) (l : List ByteArray) (w : World) (hl : l.length = n) (hnc : n ≤ c) (hA : A = none → c = 0) (hn : n ≤ 1000) (hs : ∀ s ∈ l, s.size ≤ 1000) (hr : RdC w A (l.map Value.string)) (hfo : h.fo = false) :
    Calls Try.prog 16 #[hdV h, .slice A n c] w (TxtP (valueF h (l.map byt)) w) := by
  have HR := Lib.hid hr
  have HS := Lib.hid hs
  have HL := Lib.hid hl
  have HA := Lib.hid hA
  clear hr hs hl hA
  obtain ⟨fo, st, ke, dg⟩ := h
  obtain rfl : fo = false := hfo
  unfold hdV
  simp only []
  go_enter Try.func16, Try.ntmps16
  go_wp2_with fail
  go_loop [5] (fun i => ∃ j : Nat, j ≤ n ∧ i = .int .i64 (j : Int) ∧ Hid (∀ k, j ≤ k → k < n → (l.map byt).getD k [] = [])) (fun i => (intOf i).toNat)
  case atStart => exact ⟨n, by omega, rfl, fun k h1 h2 => by omega⟩
  case round =>
    obtain ⟨j, hj, rfl, HK⟩ := hrel
    have hsl := slice_hs A n c j hj hnc HA.out
    by_cases h0 : 0 < j
    · obtain ⟨b, off, rfl, hc⟩ := HR.out.addr (by simp; rw [HL.out]; omega)
      obtain ⟨q, rfl⟩ : ∃ q, j = q + 1 := ⟨j - 1, by omega⟩
      obtain ⟨s, hsj⟩ : ∃ s, l[q]? = some s := ⟨_, List.getElem?_eq_getElem (by rw [HL.out]; omega)⟩
      have hcell : w.cell? ⟨b, off + q, none⟩ = some (.string s) := hc q (.string s) (by simp [hsj])
      have hbl : b < w.heap.size := World.block_lt_of_cell? _ _ hcell
      have hgd : (l.map byt).getD q [] = byt s := by simp [List.getD, hsj]
      have d1 : ((q + 1 : Nat) : Int) - 1 = (q : Int) := by omega
      clear hc hsj
      rcases empty_or s with ⟨rfl, hz⟩ | ⟨hs0, hz, hne⟩
      · have HG : Hid (∀ k, q ≤ k → k < n → (l.map byt).getD k [] = []) := by
          intro k h1 h2
          by_cases he : k = q
          · subst he; rw [hgd, hz]
          · exact HK.out k (by omega) h2
        clear hgd hz hsl
        go_wp2_with fail
        go_round
        case rel => exact ⟨q, by omega, by go_num, HG⟩
        case measure => simp [intOf]
      · have hah : ahd (l.map byt) = q + 1 := ahd_eq _ _ (by rw [List.length_map, HL.out]; omega) (fun k h1 h2 => HK.out k h1 (by rw [List.length_map, HL.out] at h2; exact h2)) (fun _ => by rw [show q + 1 - 1 = q by omega, hgd]; exact hz)
        have HAH := Lib.hid hah
        clear hah hgd hz
        have hsl' : ∀ W, (Instr.slice 22 (.slice (some ⟨b, off, none⟩) n c) none (some (.int .i64 ((q : Int) + 1))) none).run Try.prog W = .ok (.slice (some ⟨b, off, none⟩) (q + 1) c) W := fun W => hsl W
        clear hsl
        have hsl := hsl'
        clear hsl'
        go_wp2_with fail
        refine (join_any (some ⟨b, off, none⟩) (q + 1) c (l.take (q + 1)) (w.alloc (.cells #[.bool false, .bool st, .bool ke, .int .i64 (dg : Int)] 27)) (by rw [List.length_take, HL.out]; omega) (by omega) (by omega) (fun s hs => HS.out s (List.mem_of_mem_take hs)) (by rw [List.map_take]; exact (HR.out.below ((Below.refl _ _).alloc (Nat.le_refl _) _)).take (q + 1))).mono ?_
        rintro e W1 ⟨t, ht, rfl, hb1⟩
        have hblk : W1.heap[w.heap.size]? = some (.cells #[.bool false, .bool st, .bool ke, .int .i64 (dg : Int)] 27) := (hb1.block w.heap.size (by simp)).trans (heap_alloc_new w _)
        have c0 : W1.cell? ⟨w.heap.size, 0, none⟩ = some (.bool false) := by simp [World.cell?, hblk]
        have c1 : W1.cell? ⟨w.heap.size, 1, none⟩ = some (.bool st) := by simp [World.cell?, hblk]
        have c2 : W1.cell? ⟨w.heap.size, 2, none⟩ = some (.bool ke) := by simp [World.cell?, hblk]
        have c3 : W1.cell? ⟨w.heap.size, 3, none⟩ = some (.int .i64 (dg : Int)) := by simp [World.cell?, hblk]
        have HB1 := Lib.hid (below_step ((Below.refl _ _).alloc (Nat.le_refl _) _) hb1)
        have HT := Lib.hid ht
        clear hblk hb1 ht hsl
        have hts : t.size ≤ 1002000 := by
          rw [← byt_len, HT.out]
          have h1 := join_len 1000 ((l.take (q + 1)).map byt) (fun r hr => (by simp only [List.mem_map] at hr; obtain ⟨s, h1, rfl⟩ := hr; rw [byt_len]; exact HS.out s (List.mem_of_mem_take h1)))
          rw [List.length_map, List.length_take, HL.out] at h1
          exact Nat.le_trans h1 (by omega)
        go_wp2_with fail
        refine (ending_int ⟨false, st, ke, dg⟩ (q + 1) (n - (q + 1)) _ _ (by omega) (by first | omega | (rw [IntWalk.i64_in _ (by omega)]; omega)) (by omega) (by omega) W1).mono ?_
        rintro e W2 ⟨u, hu, rfl, hb2⟩
        have hus : u.size ≤ 2000 := by
          have := endN_le ⟨false, st, ke, dg⟩ (q + 1) (n - (q + 1))
          rw [← byt_len, hu, brs, List.length_replicate]
          omega
        have HU := Lib.hid hu
        have HB2 := Lib.hid hb2
        clear hu hb2
        go_wp2
        go_ret
        refine ⟨_, ?_, rfl, HB1.out.trans (HB2.out.mono HB1.out.size)⟩
        rw [byt_append, HT.out, HU.out]
        unfold valueF
        rw [HAH.out, List.length_map, HL.out, List.map_take]
        rfl
    · obtain rfl : j = 0 := by omega
      have hah : ahd (l.map byt) = 0 := ahd_eq _ _ (by omega) (fun k h1 h2 => HK.out k h1 (by rw [List.length_map, HL.out] at h2; exact h2)) (fun h => by omega)
      have HAH := Lib.hid hah
      clear hah
      have hsl' : ∀ W, (Instr.slice 22 (.slice A n c) none (some (.int .i64 0)) none).run Try.prog W = .ok (.slice A 0 c) W := fun W => hsl W
      clear hsl
      have hsl := hsl'
      clear hsl'
      go_wp2_with fail
      refine (join_any A (0) c (l.take (0)) (w.alloc (.cells #[.bool false, .bool st, .bool ke, .int .i64 (dg : Int)] 27)) (by rw [List.length_take, HL.out]; omega) (by omega) (by omega) (fun s hs => HS.out s (List.mem_of_mem_take hs)) (by rw [List.map_take]; exact (HR.out.below ((Below.refl _ _).alloc (Nat.le_refl _) _)).take (0))).mono ?_
      rintro e W1 ⟨t, ht, rfl, hb1⟩
      have hblk : W1.heap[w.heap.size]? = some (.cells #[.bool false, .bool st, .bool ke, .int .i64 (dg : Int)] 27) := (hb1.block w.heap.size (by simp)).trans (heap_alloc_new w _)
      have c0 : W1.cell? ⟨w.heap.size, 0, none⟩ = some (.bool false) := by simp [World.cell?, hblk]
      have c1 : W1.cell? ⟨w.heap.size, 1, none⟩ = some (.bool st) := by simp [World.cell?, hblk]
      have c2 : W1.cell? ⟨w.heap.size, 2, none⟩ = some (.bool ke) := by simp [World.cell?, hblk]
      have c3 : W1.cell? ⟨w.heap.size, 3, none⟩ = some (.int .i64 (dg : Int)) := by simp [World.cell?, hblk]
      have HB1 := Lib.hid (below_step ((Below.refl _ _).alloc (Nat.le_refl _) _) hb1)
      have HT := Lib.hid ht
      clear hblk hb1 ht hsl
      have hts : t.size ≤ 1002000 := by
        rw [← byt_len, HT.out]
        have h1 := join_len 1000 ((l.take (0)).map byt) (fun r hr => (by simp only [List.mem_map] at hr; obtain ⟨s, h1, rfl⟩ := hr; rw [byt_len]; exact HS.out s (List.mem_of_mem_take h1)))
        rw [List.length_map, List.length_take, HL.out] at h1
        exact Nat.le_trans h1 (by omega)
      go_wp2_with fail
      refine (ending_int ⟨false, st, ke, dg⟩ (0) (n - (0)) _ _ (by omega) (by first | omega | (rw [IntWalk.i64_in _ (by omega)]; omega)) (by omega) (by omega) W1).mono ?_
      rintro e W2 ⟨u, hu, rfl, hb2⟩
      have hus : u.size ≤ 2000 := by
        have := endN_le ⟨false, st, ke, dg⟩ (0) (n - (0))
        rw [← byt_len, hu, brs, List.length_replicate]
        omega
      have HU := Lib.hid hu
      have HB2 := Lib.hid hb2
      clear hu hb2
      go_wp2
      go_ret
      refine ⟨_, ?_, rfl, HB1.out.trans (HB2.out.mono HB1.out.size)⟩
      rw [byt_append, HT.out, HU.out]
      unfold valueF
      rw [HAH.out, List.length_map, HL.out, List.map_take]
      rfl

theorem value_any (A : Option Addr) (n c : Nat) (h : Hd) (l : List ByteArray) (w : World) (hl : l.length = n) (hnc : n ≤ c) (hA : A = none → c = 0) (hn : n ≤ 1000) (hs : ∀ s ∈ l, s.size ≤ 1000) (hr : RdC w A (l.map Value.string)) :
    Calls Try.prog 16 #[hdV h, .slice A n c] w (TxtP (valueF h (l.map byt)) w) := by
  cases hf : h.fo with
  | true => exact value_true A n c h l w hl hnc hA hn hs hr hf
  | false => exact value_false A n c h l w hl hnc hA hn hs hr hf
end Go.Proofs.Ytodnfdkcmhiljaa
