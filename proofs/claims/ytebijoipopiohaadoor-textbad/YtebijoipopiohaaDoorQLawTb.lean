/-
  The walk of TextBad. Conditions: the sentinel errors lie as the program's text lays them.
-/
import Derived.Test.YtebijoipopiohaaDoorQTxW
import Derived.Test.YtebijoipopiohaaDoorQTxFr
import Derived.Test.YtebijoipopiohaaDoorQNumb
namespace Go.Proofs.YtebijoipopiohaaDoor
open Go.Shelf Go.RowKit Go.Lib

theorem tmod6 (k : Nat) : (k : Int).tmod 6 = ((k % 6 : Nat) : Int) := by
  rw [Int.tmod_eq_emod_of_nonneg (by omega)]
  omega
theorem Sents.pick {w : World} {ads : List Addr} (h : Sents w ads) (i : Nat) (hi : i < 21) : ads[i]? = some (ads.getD i default) := by
  have hl : i < ads.length := by rw [h.len]; exact hi
  simp [List.getD, List.getElem?_eq_getElem hl]
theorem size_of {S : ByteArray} {l : List UInt8} (h : S.data.toList = l) : S.size = l.length := by rw [← h]; simp

set_option maxRecDepth 100000 in
set_option maxHeartbeats 4000000 in
theorem textBad_walk (n a o : Int) (w : World) (_ : (Lit.int .i64 n).wf = true) (_ : (Lit.int .i64 a).wf = true) (_ : (Lit.int .i64 o).wf = true) (hL : laidMetH Tryd.prog laid21 w) : Calls Tryd.prog 3 #[.int .i64 n, .int .i64 a, .int .i64 o] w (RetYes w) := by
  obtain ⟨ads, hS⟩ := sents_of hL
  have HS := Lib.hid hS
  have HF := Lib.hid (first_any w)
  have hi1 := Int.emod_nonneg n (show (200 : Int) ≠ 0 by decide)
  have hi2 := Int.emod_lt_of_pos n (show (0 : Int) < 200 by decide)
  obtain ⟨m, hm⟩ : ∃ m : Nat, n % 200 = (m : Int) := ⟨(n % 200).toNat, by omega⟩
  have HN1 := Lib.hid (fun W => number_any n 200 W (by decide) (by decide))
  rw [hm] at HN1 hi2
  have hp1 := Int.emod_nonneg a (show ((m : Int) + 1) ≠ 0 by omega)
  have hp2 := Int.emod_lt_of_pos a (show (0 : Int) < (m : Int) + 1 by omega)
  obtain ⟨p, hp⟩ : ∃ p : Nat, a % ((m : Int) + 1) = (p : Int) := ⟨(a % ((m : Int) + 1)).toNat, by omega⟩
  have HN2 := Lib.hid (fun W => number_any a ((m : Int) + 1) W (by omega) (by omega))
  rw [hp] at HN2 hp2
  have hq1 := Int.emod_nonneg o (show (7 : Int) ≠ 0 by decide)
  have hq2 := Int.emod_lt_of_pos o (show (0 : Int) < 7 by decide)
  obtain ⟨q, hq⟩ : ∃ q : Nat, o % 7 = (q : Int) := ⟨(o % 7).toNat, by omega⟩
  have HN3 := Lib.hid (fun W => number_any o 7 W (by decide) (by decide))
  rw [hq] at HN3 hq2
  have hql : q < oddL.length := by show q < 7; omega
  obtain ⟨od, hod⟩ : ∃ od, od = oddL[q] := ⟨_, rfl⟩
  have HOd : Hid (od ∈ oddL) := Lib.hid (by rw [hod]; exact List.getElem_mem hql)
  have HOg : Hid (oddL[q]? = some od) := Lib.hid (by rw [hod]; exact List.getElem?_eq_getElem hql)
  have HOl := Lib.hid (odd_len od HOd.out)
  clear hL hS hm hi1 hp hp1 hq hq1 hql hod
  go_enter Tryd.func3, Tryd.ntmps3
  go_wp2_with fail
  refine HF.out.mono ?_
  rintro e w1 ⟨rfl, hB1⟩
  go_wp2_with fail
  refine (HN1.out _).mono ?_
  rintro e w2 ⟨rfl, rfl⟩
  go_wp2_with fail
  refine (HN2.out _).mono ?_
  rintro e w2 ⟨rfl, rfl⟩
  clear HF HN1 HN2
  have HB1 := Lib.hid hB1
  clear hB1
  go_wp2
  have hb1 : Blk ((w1.alloc (.cells #[.string ⟨#[97]⟩, .string ⟨#[206, 177]⟩, .string ⟨#[195, 169]⟩, .string ⟨#[240, 159, 152, 128]⟩, .string ⟨#[9]⟩, .string ⟨#[239, 191, 189]⟩] 9)).alloc (.cells #[.string ⟨#[255]⟩, .string ⟨#[195]⟩, .string ⟨#[226, 130]⟩, .string ⟨#[0]⟩, .string ⟨#[127]⟩, .string ⟨#[27]⟩, .string ⟨#[237, 160, 128]⟩] 9)) w1.heap.size 9 (strC letL) := Blk.alloc (heap_alloc_new w1 _) _
  have hb2 : Blk ((w1.alloc (.cells #[.string ⟨#[97]⟩, .string ⟨#[206, 177]⟩, .string ⟨#[195, 169]⟩, .string ⟨#[240, 159, 152, 128]⟩, .string ⟨#[9]⟩, .string ⟨#[239, 191, 189]⟩] 9)).alloc (.cells #[.string ⟨#[255]⟩, .string ⟨#[195]⟩, .string ⟨#[226, 130]⟩, .string ⟨#[0]⟩, .string ⟨#[127]⟩, .string ⟨#[27]⟩, .string ⟨#[237, 160, 128]⟩] 9)) (w1.heap.size + 1) 9 (strC oddL) := heap_alloc2_new w1 _ _
  have HB2 : Hid (Below w.heap.size w ((w1.alloc (.cells #[.string ⟨#[97]⟩, .string ⟨#[206, 177]⟩, .string ⟨#[195, 169]⟩, .string ⟨#[240, 159, 152, 128]⟩, .string ⟨#[9]⟩, .string ⟨#[239, 191, 189]⟩] 9)).alloc (.cells #[.string ⟨#[255]⟩, .string ⟨#[195]⟩, .string ⟨#[226, 130]⟩, .string ⟨#[0]⟩, .string ⟨#[127]⟩, .string ⟨#[27]⟩, .string ⟨#[237, 160, 128]⟩] 9))) := Lib.hid ((HB1.out.alloc HB1.out.size _).alloc (by have := HB1.out.size; simp; omega) _)
  generalize ((w1.alloc (.cells #[.string ⟨#[97]⟩, .string ⟨#[206, 177]⟩, .string ⟨#[195, 169]⟩, .string ⟨#[240, 159, 152, 128]⟩, .string ⟨#[9]⟩, .string ⟨#[239, 191, 189]⟩] 9)).alloc (.cells #[.string ⟨#[255]⟩, .string ⟨#[195]⟩, .string ⟨#[226, 130]⟩, .string ⟨#[0]⟩, .string ⟨#[127]⟩, .string ⟨#[27]⟩, .string ⟨#[237, 160, 128]⟩] 9)) = W2 at *
  generalize w1.heap.size = g at *
  have HL1 := Lib.hid hb1
  have HOc := Lib.hid (strC_cell hb2 q od HOg.out)
  clear hb1 hb2 HB1 HOg
  obtain ⟨O, hO⟩ : ∃ O : ByteArray, O = ⟨od.toArray⟩ := ⟨_, rfl⟩
  rw [← hO] at HOc
  have HOd2 : Hid (O.data.toList = od) := Lib.hid (by rw [hO])
  have hOz : O.size ≤ 3 := by rw [size_of HOd2.out]; exact HOl.out
  clear hO
  go_loop [10, 11, 12] (fun x y i => ∃ (k : Nat) (S T : ByteArray), k ≤ m + 1 ∧ x = .string S ∧ y = .string T ∧ S.data.toList = sgt 0 k ∧ T.data.toList = oddT od p k ∧ i = .int .i64 (k : Int)) (fun _ _ i => m + 1 - (intOf i).toNat)
  case atStart => exact ⟨0, ⟨#[]⟩, ⟨#[]⟩, by omega, rfl, rfl, rfl, rfl, rfl⟩
  case round =>
    obtain ⟨k, S, T, hk, rfl, rfl, hSd, hTd, rfl⟩ := hrel
    have hSz : S.size ≤ 900 := by have := sgt_len 0 k; rw [size_of hSd]; omega
    have hTz : T.size ≤ 900 := by have := oddT_len od p k HOl.out; rw [size_of hTd]; omega
    have HSd := Lib.hid hSd
    have HTd := Lib.hid hTd
    clear hSd hTd
    by_cases h : k ≤ m
    · have h6 := tmod6 k
      have hj6 : k % 6 < 6 := by omega
      have hcl := strC_cell HL1.out (k % 6) _ (lbt_get k)
      obtain ⟨L, hLd⟩ : ∃ L : ByteArray, L = ⟨(lbt k).toArray⟩ := ⟨_, rfl⟩
      rw [← hLd] at hcl
      have HLd : Hid (L.data.toList = lbt k) := Lib.hid (by rw [hLd])
      have hLz : L.size ≤ 4 := by rw [size_of HLd.out]; exact lbt_len k
      obtain ⟨j, hj⟩ : ∃ j, j = k % 6 := ⟨_, rfl⟩
      rw [← hj] at h6 hcl hj6
      clear hLd hj
      have HGs : Hid ((S ++ L).data.toList = sgt 0 (k + 1)) := Lib.hid (by rw [ByteArray.data_append, Array.toList_append, HSd.out, HLd.out, sgt, Nat.zero_add])
      by_cases hkp : k = p
      · have hkp' : ((k : Int) == (p : Int)) = true := by simp [hkp]
        have HGt : Hid ((T ++ O ++ ⟨#[32]⟩ ++ L).data.toList = oddT od p (k + 1)) := Lib.hid (by
          have := oddT_at od p
          rw [hkp, ← this, ByteArray.data_append, Array.toList_append, ByteArray.data_append, Array.toList_append, ByteArray.data_append, Array.toList_append, HTd.out, HLd.out, HOd2.out, hkp]
          simp)
        have hOc := HOc.out
        clear hkp
        go_wp2_with fail
        refine (HN3.out _).mono ?_
        rintro e w3 ⟨rfl, rfl⟩
        go_wp2
        go_round
        case rel => exact ⟨k + 1, _, _, by omega, rfl, rfl, HGs.out, HGt.out, by go_num⟩
        case measure => simp [intOf]; omega
      · have hkp' : ((k : Int) == (p : Int)) = false := beq_eq_false_iff_ne.2 (by omega)
        have HGt : Hid ((T ++ L).data.toList = oddT od p (k + 1)) := Lib.hid (by rw [← oddT_step od p k hkp, ByteArray.data_append, Array.toList_append, HTd.out, HLd.out])
        clear hkp
        go_wp2
        go_round
        case rel => exact ⟨k + 1, _, _, by omega, rfl, rfl, HGs.out, HGt.out, by go_num⟩
        case measure => simp [intOf]; omega
    · obtain rfl : k = m + 1 := by omega
      obtain ⟨hgood, hcnt⟩ := good_text S (m + 1) HSd.out
      have HGood := Lib.hid hgood
      have HBadT := Lib.hid (bad_text T od p (m + 1) HOd.out (by omega) HTd.out)
      have HV1 : Hid (∀ W, Below w.heap.size w W → Calls Tryd.prog 6 #[.string S] W (RetVal W S (ads.getD 4 default))) := Lib.hid fun W hW => valid_any S W _ (by omega) (cellOf (HS.out.later hW) 4 _ rfl)
      have HV2 : Hid (∀ W, Below w.heap.size w W → Calls Tryd.prog 6 #[.string T] W (RetVal W T (ads.getD 4 default))) := Lib.hid fun W hW => valid_any T W _ (by omega) (cellOf (HS.out.later hW) 4 _ rfl)
      have HC := Lib.hid (fun W => count_any S W (by omega))
      rw [hcnt] at HC
      clear hgood hcnt hk
      go_wp2_with fail
      refine (HV1.out _ HB2.out).mono ?_
      rintro e w3 ⟨hB3, ⟨_, rfl⟩ | ⟨p', b, hbad, _⟩⟩
      · have HB3 := Lib.hid (HB2.out.trans (hB3.mono HB2.out.size))
        clear hB3
        go_wp2_with fail
        refine (HC.out _).mono ?_
        rintro e w4 ⟨rfl, hB4⟩
        have HB4 := Lib.hid (HB3.out.trans (hB4.mono HB3.out.size))
        clear hB4
        go_wp2_with fail
        refine (HV2.out _ HB4.out).mono ?_
        rintro e w5 ⟨hB5, ⟨hno, _⟩ | ⟨p', b, hbad, rfl, hblk⟩⟩
        · exact absurd hno (badAt_not HBadT.out)
        · obtain rfl := badAt_one hbad HBadT.out
          have HB5 := Lib.hid (HB4.out.trans (hB5.mono HB4.out.size))
          have HBl := Lib.hid hblk
          clear hB5 hbad hblk
          have HPl := Lib.hid (fun W => placed_any 105 (p' : Int) W (by decide))
          go_wp2_with fail
          refine (HPl.out _).mono ?_
          rintro e w6 ⟨rfl, hB6⟩
          have HSm := Lib.hid (same_at' w6 ads 4 b (ads.getD 4 default) 105 (p' : Int) (p' : Int) (HS.out.later (HB5.out.trans (hB6.mono HB5.out.size))) (HS.out.pick 4 (by decide)) (HBl.out.below hB6 HBl.out.lt) (by decide) rfl)
          have HB6 := Lib.hid (HB5.out.trans (hB6.mono HB5.out.size))
          clear hB6
          go_wp2_with fail
          refine HSm.out.mono ?_
          rintro e w7 ⟨rfl, hB7⟩
          go_wp2
          go_ret
          exact ⟨rfl, HB6.out.trans (hB7.mono HB6.out.size)⟩
      · exact absurd HGood.out (badAt_not hbad)
end Go.Proofs.YtebijoipopiohaaDoor
