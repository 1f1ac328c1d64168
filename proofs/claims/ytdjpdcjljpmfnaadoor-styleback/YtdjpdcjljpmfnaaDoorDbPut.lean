/- double.Put; the document's example. -/
import Derived.Test.YtdjpdcjljpmfnaaDoorDbWr
import Derived.Test.YtdjpdcjljpmfnaaDoorAppText
import Derived.Test.YtdjpdcjljpmfnaaDoorOne
namespace Go.Proofs.YtdjpdcjljpmfnaaDoor
open Go.RowKit
set_option linter.unusedVariables false
set_option maxRecDepth 100000

def PutP (o : Option (List Int)) (w : World) (e : Ending) (w' : World) : Prop :=
  ∃ p : ByteArray, byt p = o.getD [] ∧ e = .returned (.tuple #[.string p, .bool o.isSome]) ∧ Below w.heap.size w w'
theorem pqAt_end (zs acc : List Int) (k : Nat) (h : zs.length ≤ k) : pqAt zs acc k = some (acc ++ [34]) := by
  unfold pqAt; rw [List.drop_eq_nil_of_le h]; rfl
theorem pqAt_bad (zs acc : List Int) (k : Nat) (h : k < zs.length) (r j : Int) (hf : runeF (zs.drop k) = (r, j, false)) : pqAt zs acc k = none := by
  unfold pqAt
  rw [pq_bad (zs.drop k) (by intro h0; have := congrArg List.length h0; rw [List.length_drop] at this; simp at this; omega) r j hf]; rfl
theorem pqAt_good (zs acc : List Int) (k : Nat) (h : k < zs.length) (r : Int) (j : Nat) (hf : runeF (zs.drop k) = (r, (j : Int), true)) : pqAt zs acc k = pqAt zs (acc ++ wrF r) (k + j) := by
  unfold pqAt
  rw [pq_good (zs.drop k) (by intro h0; have := congrArg List.length h0; rw [List.length_drop] at this; simp at this; omega) r j hf, List.drop_drop, Int.toNat_natCast]
  cases pq (zs.drop (k + j)) with
  | none => rfl
  | some y => simp
theorem pqAt_start (zs : List Int) : pqAt zs [34] 0 = putD zs := by
  unfold pqAt putD; rw [List.drop_zero]; rfl
theorem rune_next (zs : List Int) (hb : Byte zs) (k : Nat) (h : k < zs.length) : ∃ (r : Int) (j : Nat) (ok : Bool), runeF (zs.drop k) = (r, (j : Int), ok) ∧ 1 ≤ j ∧ k + j ≤ zs.length ∧ j ≤ 4 ∧ (ok = true → okR r = true ∧ utfF r = (zs.drop k).take j) := by
  have hn := runeF_n (zs.drop k) (by intro h0; have := congrArg List.length h0; rw [List.length_drop] at this; simp at this; omega)
  rcases hf : runeF (zs.drop k) with ⟨r, j, ok⟩
  rw [hf] at hn
  simp only [List.length_drop] at hn
  refine ⟨r, j.toNat, ok, ?_, by omega, by omega, by omega, fun hok => ?_⟩
  · rw [show ((j.toNat : Nat) : Int) = j by omega]
  · subst hok
    have := utf_runeF _ (hb.drop k) r j hf
    exact ⟨this.1, this.2.2.2⟩
theorem wrF_byte {r : Int} (h : okR r = true) : Byte (wrF r) := by
  intro z hz
  unfold wrF at hz
  split at hz
  · rename_i c hc
    have := shL_ok _ (letR_mem hc)
    simp at hz
    omega
  split at hz
  · exact utfF_byte h z hz
  split at hz
  · simp at hz
    rcases hz with rfl | rfl | hz
    · omega
    · omega
    · exact hexF_all _ _ z hz
  split at hz
  · simp at hz
    rcases hz with rfl | rfl | hz
    · omega
    · omega
    · exact hexF_all _ _ z hz
  · simp at hz
    rcases hz with rfl | rfl | hz
    · omega
    · omega
    · exact hexF_all _ _ z hz

theorem bytes_more {w W : World} {s : ByteArray} {cap : Nat} (h : Bytes w s cap W) : w.heap.size < W.heap.size := by
  have := Lib.run_convert_string_bytes (P := Tryd.prog) w 9 37 5 s Tryd.underlying9 Tryd.underlying37 Tryd.underlying5
  rw [h.run] at this
  injection this with _ h2
  rw [h2, Lib.bytesWorld_size]
  omega

set_option maxHeartbeats 4000000 in
theorem put_any (s : ByteArray) (w : World) (hs : s.size ≤ 1000000) (hS : Shorts w) (o : Option (List Int)) (ho : putD (byt s) = o) :
    Calls Tryd.prog 15 #[.string s] w (PutP o w) := by
  have HO : Hid (pqAt (byt s) [34] 0 = o) := by show _ = _; rw [pqAt_start, ho]
  have HS := Lib.hid hS
  obtain ⟨c, V, B⟩ := bytes_of s (by omega) (w.alloc (.cells #[.int .u8 34] 5))
  have hrun := B.run
  have hle := B.le
  have hmax := B.max
  have hbel : Below w.heap.size w V := below_step ((Below.refl _ _).alloc (Nat.le_refl _) _) B.below
  have HSTART : Hid (V.ownsRow w.heap.size 5 1 (.slice (some ⟨w.heap.size, 0, none⟩) 1 1) 1 (([34] : List Int).map (Value.int .u8)) ∧ RdB V (some ⟨w.heap.size + 1, 0, none⟩) (byt s) ∧ w.heap.size + 1 < V.heap.size ∧ Below w.heap.size w V) := by
    refine ⟨own_below (own_one w w (Nat.le_refl _) 34) B.below, ?_, by have := bytes_more B; simpa using this, hbel⟩
    have := B.rd
    simpa using this
  have HY : Hid (Byte (byt s)) := byt_byte s
  have HL : Hid ((byt s).length = s.size) := byt_len s
  have hrun' : (convert 9 37 (.string s)).run Tryd.prog (w.alloc (.cells #[.int .u8 34] 5)) = .ok (.slice (some ⟨w.heap.size + 1, 0, none⟩) s.size c) V := by
    rw [hrun]; simp
  clear B hbel ho hS hrun
  generalize byt s = zs at *
  generalize hn : s.size = n at *
  have HN := Lib.hid hn
  clear hn
  go_enter Tryd.func15, Tryd.ntmps15
  go_wp2_with fail
  clear hrun'
  go_loopw [2, 3, 4, 5] (fun r1 r2 v b W => ∃ (k m cc p cap g : Nat) (A' : Option Addr), k + m = n ∧ k + cc = c ∧ p ≤ 1 + 10 * k ∧ r1 = .string ⟨#[]⟩ ∧ r2 = .bool false ∧ v = .slice (some ⟨g, 0, none⟩) p cap ∧ b = .slice A' m cc ∧ p ≤ cap ∧ cap ≤ 9223372036854775807 ∧
    Hid (∃ acc : List Int, acc.length = p ∧ Byte acc ∧ pqAt zs acc k = o ∧ W.ownsRow w.heap.size 5 1 (.slice (some ⟨g, 0, none⟩) p cap) p (acc.map (Value.int .u8)) ∧ RdB W (some ⟨w.heap.size + 1, 0, none⟩) zs ∧ (∀ U, RdB U (some ⟨w.heap.size + 1, 0, none⟩) zs → RdB U A' (zs.drop k)) ∧ (A' = none → cc = 0) ∧ w.heap.size + 1 ≠ g ∧ w.heap.size + 1 < W.heap.size ∧ Below w.heap.size w W)) (fun _ _ _ b _ => lenV b)
  case atStart => exact ⟨0, n, c, 1, 1, _, _, by omega, by omega, by omega, rfl, rfl, rfl, rfl, by omega, by omega, [34], rfl, (by intro z hz; simp at hz; omega), HO.out, HSTART.out.1, HSTART.out.2.1, (fun U h => by simpa using h), (fun h => by cases h), by omega, HSTART.out.2.2.1, HSTART.out.2.2.2⟩
  case round =>
    obtain ⟨k, m, cc, p, cap, g, A', hkm, hkc, hpk, rfl, rfl, rfl, rfl, hpc, hcap, HK⟩ := hrel
    obtain ⟨W, hW⟩ : ∃ x, x = wr := ⟨_, rfl⟩
    subst hW
    have hmc : m ≤ cc := by omega
    have hcc : cc ≤ 9223372036854775807 := by omega
    have HKM := Lib.hid (And.intro hkm hkc)
    have hkn : k ≤ n := by omega
    clear hkm hkc
    obtain ⟨acc, hal, hay, hao, hown, hrz, hrA, hA', hGg, hGW, hbel⟩ := HK.out
    have HB := Lib.hid hbel
    have HAL := Lib.hid hal
    have HAY := Lib.hid hay
    have HAO := Lib.hid hao
    have HOWN := Lib.hid hown
    have HRZ := Lib.hid hrz
    have HRA := Lib.hid hrA
    have HA' := Lib.hid hA'
    have HGG := Lib.hid (And.intro hGg hGW)
    clear hal hay hao hown hrz hrA hA' hGg hGW hbel HK
    by_cases h0 : 0 < m
    · have hd : (0 : Int) < (m : Int) := by omega
      have hkz : k < zs.length := by have := HKM.out; rw [HL.out]; omega
      obtain ⟨r, j, ok, hrf, hj1, hj2, hj4, hgood⟩ := rune_next zs HY.out k hkz
      have hly : (zs.drop k).length = m := by have := HKM.out; rw [List.length_drop, HL.out]; omega
      have hjm : j ≤ m := by rw [HL.out] at hj2; have := HKM.out; omega
      have CR := Lib.hid (rune_at A' m cc (zs.drop k) W r (j : Int) ok hly hmc hcc (HY.out.drop k) (HRA.out W HRZ.out) hrf)
      cases ok
      · have hv : o = none := by rw [← HAO.out, pqAt_bad zs acc k hkz r j hrf]
        subst hv
        clear hgood hrf hly hkz
        go_wp2_with (go_at_call 23; refine CR.out.mono ?_; rintro e w' ⟨rfl, rfl⟩)
        go_ret2
        exact ⟨⟨#[]⟩, rfl, rfl, HB.out⟩
      · have hok := (hgood rfl).1
        have HO2 : Hid (pqAt zs (acc ++ wrF r) (k + j) = o) := by show _ = _; rw [← HAO.out, pqAt_good zs acc k hkz r j hrf]
        obtain ⟨A2, hsl, hA2, hrd⟩ := slice_lI A' m cc j (j : Int) rfl (zs.drop k) hly hmc HA'.out hjm
        have HR2 : Hid (∀ U, RdB U (some ⟨w.heap.size + 1, 0, none⟩) zs → RdB U A2 (zs.drop (k + j))) := by
          intro U hU
          have := hrd U (HRA.out U hU)
          rwa [List.drop_drop] at this
        have HA2 := Lib.hid hA2
        have HOK := Lib.hid hok
        have hwl := wrF_len r
        have hwl2 := hwl.2
        have HWB : Hid (Byte (wrF r)) := wrF_byte hok
        clear hgood hrf hly hkz hok hA2 hrd hwl
        go_wp2_with (go_at_call 23; refine CR.out.mono ?_; rintro e w' ⟨rfl, rfl⟩)
        refine (written_any r W HOK.out (HS.out.below HB.out)).mono ?_
        rintro e W2 ⟨t, ht, rfl, hb2⟩
        have HT := Lib.hid ht
        have htl : t.size = (wrF r).length := by rw [← ht, byt_len]
        generalize (wrF r).length = L at *
        obtain ⟨g3, cap3, W3, hrun3, k1, k2, k4, k5, k6, k7, k8⟩ := text_more w W2 g cap p acc (own_below HOWN.out hb2) (below_step HB.out hb2) t L htl (by omega)
        have HRUN := Lib.hid hrun3
        rw [ht] at k4
        have HG : Hid (W3.ownsRow w.heap.size 5 1 (.slice (some ⟨g3, 0, none⟩) (p + L) cap3) (p + L) ((acc ++ wrF r).map (Value.int .u8)) ∧ RdB W3 (some ⟨w.heap.size + 1, 0, none⟩) zs ∧ w.heap.size + 1 ≠ g3 ∧ w.heap.size + 1 < W3.heap.size ∧ Below w.heap.size w W3) := by
          have h1 := HGG.out
          have h2 := hb2.size
          refine ⟨k4, k8 _ _ h1.1 (HRZ.out.below hb2), ?_, by omega, k5⟩
          rcases k6 with rfl | rfl
          · exact h1.1
          · omega
        have HLL : Hid ((acc ++ wrF r).length = p + L) := by show _ = _; rw [List.length_append, HAL.out, ← htl, ← byt_len, HT.out]
        clear ht hb2 hrun3 k4 k5 k6 k7 k8 htl
        go_wp2_with (at_builtin; refine wpList_append_str rfl _ (.tmp 25) 37 9 rfl (.slice (some ⟨g, 0, none⟩) p cap) (.string t) _ _ rfl rfl HRUN.out ?_)
        go_roundw
        case rel => exact ⟨k + j, m - j, cc - j, p + L, cap3, g3, A2, by have := HKM.out; omega, by have := HKM.out; omega, by omega, rfl, rfl, rfl, rfl, k1, k2, acc ++ wrF r, HLL.out, HAY.out.append HWB.out, HO2.out, HG.out.1, HG.out.2.1, HR2.out, HA2.out, HG.out.2.2.1, HG.out.2.2.2.1, HG.out.2.2.2.2⟩
        case measure => simp [lenV]; omega
    · have hd : decide ((0 : Int) < (m : Int)) = false := decide_eq_false (by omega)
      have hv : o = some (acc ++ [34]) := by rw [← HAO.out, pqAt_end zs acc k (by have := HKM.out; rw [HL.out]; omega)]
      have HVV := Lib.hid hv
      obtain ⟨A3, cap3, W3, hrun3, k1, k2, _, k4, k5⟩ := one_more w W (some ⟨g, 0, none⟩) cap p _ HAL.out HOWN.out HB.out 34 (by omega)
      have hxb : Byte (acc ++ [34]) := HAY.out.append (by intro z hz; simp at hz; omega)
      have hxl : (acc ++ [34]).length = p + 1 := by rw [List.length_append, HAL.out]; rfl
      have hcv := run_string_rd W3 A3 (p + 1) cap3 (acc ++ [34]) hxl (RdC.own k4).toB
      have HX : Hid (byt (strOfNums (acc ++ [34])) = acc ++ [34]) := byt_strOfNums _ hxb
      have HRUN3 := Lib.hid hrun3
      have HG := Lib.hid k5
      generalize strOfNums (acc ++ [34]) = y at *
      clear hrun3 k4 k5 hxb hxl hv
      go_wp2_with (at_builtin; refine wpList_append_known rfl _ (.tmp 31) 37 rfl (.slice (some ⟨g, 0, none⟩) p cap) (.slice (some ⟨W.heap.size, 0, none⟩) 1 1) _ _ rfl rfl HRUN3.out ?_)
      go_ret2
      exact ⟨y, by rw [HX.out, HVV.out]; rfl, by rw [HVV.out]; rfl, HG.out⟩

end Go.Proofs.YtdjpdcjljpmfnaaDoor
