/-
  The walk of WireLengths: for every two ints it answers true, and nothing old is turned. Conditions: the sentinel errors lie where the program's text lays them.
-/
import Derived.Test.YtehfcobceeeloaaDoorLawErr
namespace Go.Proofs.YtehfcobceeeloaaDoor
open Go.RowKit

theorem textOf_range (t rest : List UInt8) (m : Int) (h : m < (t.length : Int)) (hl : t.length ≤ 4294967296) : textOf (enc (t.length : Int) ++ t ++ rest) m = ⟨3, [], 0⟩ := by
  have e : numOf (enc (t.length : Int) ++ (t ++ rest)) 0 m = ⟨3, 0, 0⟩ := by
    unfold numOf
    rw [dec_enc _ (by omega) (by omega)]
    dsimp only
    rw [if_pos rfl, unzz_zz, if_pos (by omega)]
  unfold textOf
  rw [List.append_assoc, e]
  rfl
theorem str_made (W : World) (N : Nat) (i0 : TypeInfo) (hz1 : i0.size = 1) :
    Str (W.alloc (.cells (madeCells (Value.int .u8 0).cells (N * i0.size)) 5)) (W.heap.size + 1) (some ⟨W.heap.size, 0, none⟩) (List.replicate N 0) :=
  ⟨fun _ => ⟨_, rfl, by simp, fun j u hu => by
    have hj : j < N := by
      rcases Nat.lt_or_ge j N with h | h
      · exact h
      · rw [List.getElem?_eq_none (by simpa using h)] at hu; cases hu
    have hu0 : u = 0 := by
      rw [List.getElem?_replicate, if_pos hj] at hu
      exact (Option.some.inj hu).symm
    subst hu0
    rw [lit_add]
    have := cell_of_row (W.alloc (.cells (madeCells (Value.int .u8 0).cells (N * i0.size)) 5)) W.heap.size j _ 5 (0, 0) (heap_alloc_new W _)
    rw [this, hz1, Nat.mul_one]
    simp [madeCells, hj, Value.cells]
    rw [Nat.mod_one]
    rfl⟩⟩

set_option maxRecDepth 100000 in
set_option maxHeartbeats 4000000 in
theorem lengths_any (x y : Int) (w : World) (ads : List Addr) (hS : Sents w ads) :
    Calls Tryd.prog 7 #[.int .i64 x, .int .i64 y] w (RetYes w) := by
  obtain ⟨i0, hi, hz0, hz1, hz2⟩ := info_parts Tryd.info8
  have HS := Lib.hid hS
  clear hS
  obtain ⟨N, hN⟩ := Int.eq_ofNat_of_zero_le (Int.emod_nonneg x (by omega : (300 : Int) ≠ 0))
  obtain ⟨M, hM⟩ := Int.eq_ofNat_of_zero_le (Int.emod_nonneg y (by omega : (300 : Int) ≠ 0))
  have hNl : N < 300 := by have := Int.emod_lt_of_pos x (by omega : (0 : Int) < 300); omega
  have hMl : M < 300 := by have := Int.emod_lt_of_pos y (by omega : (0 : Int) < 300); omega
  have hnx := fun W => number_any x 300 W (by omega) (by omega)
  have hny := fun W => number_any y 300 W (by omega) (by omega)
  rw [hN] at hnx
  rw [hM] at hny
  have HX := Lib.hid hnx
  have HY := Lib.hid hny
  clear hN hM hnx hny
  have hmk := fun W => run_make (P := Tryd.prog) W 22 5 i0 (.int .u8 0) Tryd.underlying22 hi hz0 .i64 .i64 (N : Int) (N : Int) (by omega) (by omega) (by rw [hz2]; omega) (by omega)
  rw [Int.toNat_natCast] at hmk
  obtain ⟨t, ht⟩ : ∃ t : ByteArray, t = ⟨(List.replicate N (0 : UInt8)).toArray⟩ := ⟨_, rfl⟩
  have hts : t.size = N := by rw [ht]; simp [ByteArray.size]
  have htd : t.data.toList = List.replicate N 0 := by rw [ht]
  obtain ⟨C, hC⟩ : ∃ C, C = madeCells (Value.int .u8 0).cells (N * i0.size) := ⟨_, rfl⟩
  have hcv : ∀ (W : World) (o : Obj), (convert 22 9 (.slice (some ⟨W.heap.size + 1, 0, none⟩) N N)).run Tryd.prog ((W.alloc o).alloc (.cells C 5)) = .ok (.string t) ((W.alloc o).alloc (.cells C 5)) := fun W o => by
    have := run_str _ _ _ N _ (str_made (W.alloc o) N i0 hz1)
    rw [List.length_replicate, ← ht, ← hC] at this
    simpa using this
  rw [← hC] at hmk
  clear hC
  have HTS := Lib.hid hts
  have HTD := Lib.hid htd
  clear ht hts htd
  go_enter Tryd.func7, Tryd.ntmps7
  go_wp2_with fail
  refine (first_any w).mono ?_
  rintro e w1 ⟨rfl, hB1⟩
  go_wp2_with fail
  refine (HX.out w1).mono ?_
  rintro e w2 ⟨rfl, rfl⟩
  go_wp2_with fail
  refine (HY.out w1).mono ?_
  rintro e w2 ⟨rfl, rfl⟩
  have hB2 : Below w.heap.size w ((w1.alloc (.cells #[.int .u8 0] 5)).alloc (.cells C 5)) := (hB1.alloc hB1.size _).alloc (by have := hB1.size; simp; omega) _
  have hs2 : Str ((w1.alloc (.cells #[.int .u8 0] 5)).alloc (.cells C 5)) (((w1.alloc (.cells #[.int .u8 0] 5)).alloc (.cells C 5)).heap.size) (some ⟨w1.heap.size, 0, none⟩) [0] :=
    (Str.alloc (str_new1 w1 0) (by simp) (.cells C 5)).more (by simp)
  have HS2 := Lib.hid hs2
  clear hs2
  go_wp2_with fail
  refine (putText_any _ 1 1 [0] _ t _ rfl (by omega) HS2.out (by have := HTS.out; omega) rfl).mono ?_
  rintro e w3 ⟨A3, n3, c3, rfl, HN3, ho3, hC3⟩
  have hB3 := hB2.trans (hC3.mono hB2.size)
  have hn3 : n3 ≤ 400 := by
    have h := HN3.out; have h1 := HTS.out; have := enc_length (t.size : Int)
    have h3 : t.data.toList.length = t.size := by simp
    simp only [List.length_append, List.length_singleton, h3] at h
    omega
  obtain ⟨L, hL⟩ : ∃ L, L = [0] ++ enc (t.size : Int) ++ t.data.toList := ⟨_, rfl⟩
  have HL : Hid (L = enc 0 ++ (enc ((List.replicate N (0 : UInt8)).length : Int) ++ List.replicate N 0 ++ [])) := Lib.hid (by
    rw [hL, HTS.out, HTD.out, List.length_replicate, List.append_nil, List.append_assoc, show enc 0 = [0] from by decide +kernel])
  rw [← hL] at ho3 HN3
  have HLL : Hid (L.length = 1 + ((enc ((List.replicate N (0 : UInt8)).length : Int)).length + (List.replicate N (0 : UInt8)).length)) := Lib.hid (by
    rw [HL.out, show enc 0 = [0] from by decide +kernel]; simp; omega)
  clear hL HS2 hC3
  go_wp2_with fail
  refine (newReader_any A3 n3 c3 L w3 HN3.out (by omega) ho3.str).mono ?_
  rintro e w4 ⟨g, rfl, hR4, _, hg, hC4⟩
  have hB4 := hB3.trans (hC4.mono hB3.size)
  have hgw : w.heap.size ≤ g := Nat.le_trans hB3.size hg
  have HS4 := Lib.hid (HS.out.later hB4)
  clear ho3 hC4
  go_wp2_with fail
  refine (bool_zero g L _ 0 1 w4 _ _ _ hR4 HS4.out.errs (by rw [List.drop_zero]; exact HL.out) (by decide +kernel)).mono ?_
  rintro e w5 ⟨rfl, hG5, hR5⟩
  have hB5 := grown_below hB4 hG5 hB4.size hgw
  have HS5 := Lib.hid (HS.out.later hB5)
  have HDR : Hid (L.drop 1 = enc ((List.replicate N (0 : UInt8)).length : Int) ++ List.replicate N 0 ++ []) := Lib.hid (by
    rw [HL.out, show enc 0 = [0] from by decide +kernel]; rfl)
  clear hR4 hG5
  by_cases hNM : N ≤ M
  · have hd1 : decide (N ≤ M) = true := decide_eq_true hNM
    obtain ⟨T, hT⟩ : ∃ T : ByteArray, T = ⟨(List.replicate N (0 : UInt8)).toArray⟩ := ⟨_, rfl⟩
    have hTs : T.size = N := by rw [hT]; simp [ByteArray.size]
    have hrd := fun k' hk => text_read g L (List.replicate N 0) [] 1 k' (M : Int) w5 _ _ _ hR5 HS5.out.errs HDR.out hk (by simp; omega) (by omega)
    rw [← hT] at hrd
    have HRD := Lib.hid (hrd _ rfl)
    have HTT := Lib.hid hTs
    have hb1 : ((T.size : Int) == (N : Int)) = true := beq_iff_eq.2 (by omega)
    clear hT hTs hrd
    go_wp2_with fail
    refine HRD.out.mono ?_
    rintro e w6 ⟨rfl, hG6, hR6⟩
    have hB6 := grown_below hB5 hG6 hB5.size hgw
    clear hR5 hG6
    go_wp2_with fail
    refine (err_nil g L _ w6 hR6).mono ?_
    rintro e w7 ⟨rfl, rfl⟩
    go_wp2_with fail
    refine (left_val g L _ _ w6 0 hR6 (by rw [HLL.out]; omega)).mono ?_
    rintro e w7 ⟨rfl, m7, rfl⟩
    go_wp2
    go_ret
    exact RetYes.mk (below_drewN hB6 m7)
  · have hd1 : decide (N ≤ M) = false := decide_eq_false hNM
    go_wp2_with fail
    refine (text_fail g L 1 3 (M : Int) w5 _ _ _ hR5 HS5.out.errs (by omega) (by omega) (by rw [HDR.out]; exact textOf_range _ _ _ (by simp; omega) (by simp; omega))).mono ?_
    rintro e w6 ⟨rfl, hG6, b, hbs, hb6, hR6⟩
    have hB6 := grown_below hB5 hG6 hB5.size hgw
    have HS6 := Lib.hid (HS.out.later hB6)
    have HB6 := Lib.hid hb6
    clear hR5 hG6 hb6
    go_wp2_with fail
    refine (err_bad g L _ w6 _ _ hR6).mono ?_
    rintro e w7 ⟨rfl, rfl⟩
    go_wp2_with fail
    refine (placed_any _ _ w6 (by omega)).mono ?_
    rintro e w7 ⟨rfl, hC7⟩
    have HS7 := Lib.hid (HS6.out.later hC7)
    have HB7 := Lib.hid (HB6.out.below hC7 HB6.out.lt)
    have hB7 := hB6.trans (hC7.mono hB6.size)
    go_wp2_with fail
    refine (same_at' w7 ads 3 b _ _ _ _ HS7.out (HS7.out.pick 3 (by omega)) HB7.out (by omega) (by omega)).mono ?_
    rintro e w8 ⟨rfl, hC8⟩
    go_wp2
    go_ret
    exact RetYes.mk (hB7.trans (hC8.mono hB7.size))
end Go.Proofs.YtehfcobceeeloaaDoor
