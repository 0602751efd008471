/-
  The walk of TextLines. Conditions: none.
-/
import Derived.Test.YtebijoipopiohaaQTxL
namespace Go.Proofs.Ytebijoipopiohaa
open Go.Shelf Go.RowKit Go.Lib

/-- How many letters a line has. -/
def nsOf (l : List Int) : List Nat := l.map fun z => (z % 9).toNat
theorem nsOf_le (l : List Int) : ∀ n ∈ nsOf l, n ≤ 8 := by
  intro n hn
  obtain ⟨z, _, rfl⟩ := List.mem_map.1 hn
  have := Int.emod_lt_of_pos z (show (0 : Int) < 9 by decide)
  omega
theorem nsOf_get (l : List Int) (k : Nat) (h : k < l.length) : l[k] % 9 = (((nsOf l)[k]'(by simpa [nsOf] using h) : Nat) : Int) := by
  have := Int.emod_nonneg l[k] (show (9 : Int) ≠ 0 by decide)
  simp [nsOf]
  omega
theorem take_snoc (ns : List Nat) (i : Nat) (h : i < ns.length) : ns.take (i + 1) = ns.take i ++ [ns[i]] := List.take_succ_eq_append_getElem h
/-- Where the outer loop stands. -/
def TlO (w : World) (ns : List Nat) (line : Nat) (x p i : Value) (wr : World) : Prop :=
  ∃ (k : Nat) (S : ByteArray), k ≤ ns.length ∧ x = .string S ∧ S.data.toList = txt (ns.take k) ∧ p = .int .i64 (plen (ns.take (min k line)) : Int) ∧ i = .int .i64 (k : Int) ∧ Below w.heap.size w wr
/-- Where the inner loop stands. -/
def TlI (w : World) (ns : List Nat) (i m : Nat) (x k : Value) (wr : World) : Prop :=
  ∃ (j : Nat) (S : ByteArray), j ≤ m ∧ x = .string S ∧ S.data.toList = txt (ns.take i) ++ seg j ∧ k = .int .i64 (j : Int) ∧ Below w.heap.size w wr
theorem size_of {S : ByteArray} {l : List UInt8} (h : S.data.toList = l) : S.size = l.length := by rw [← h]; simp
theorem mod3 (k : Nat) : (k % 3 = 0 ∧ (k : Int).tmod 3 = 0) ∨ (k % 3 = 1 ∧ (k : Int).tmod 3 = 1) ∨ (k % 3 = 2 ∧ (k : Int).tmod 3 = 2) := by
  rw [Int.tmod_eq_emod_of_nonneg (by omega)]
  omega

set_option maxRecDepth 100000 in
set_option maxHeartbeats 4000000 in
theorem textLines_walk (A : Option Addr) (len cap : Nat) (l : List Int) (line col : Int) (w : World) (hl : len = l.length) (hs : Ints w w.heap.size A l) (_ : (Lit.int .i64 line).wf = true) (_ : (Lit.int .i64 col).wf = true) : Calls Try.prog 7 #[.slice A len cap, .int .i64 line, .int .i64 col] w (RetYes w) := by
  have HF := Lib.hid (first_any w)
  have HL := Lib.hid hl
  by_cases h20 : 20 < len
  · clear hl
    go_enter Try.func7, Try.ntmps7
    go_wp2_with fail
    refine HF.out.mono ?_
    rintro e w1 ⟨rfl, hB1⟩
    go_wp2
    go_ret
    exact ⟨rfl, hB1⟩
  have h20' : len ≤ 20 := by omega
  by_cases h0 : len = 0
  · subst h0
    clear h20 hl
    go_enter Try.func7, Try.ntmps7
    go_wp2_with fail
    refine HF.out.mono ?_
    rintro e w1 ⟨rfl, hB1⟩
    go_wp2
    go_ret
    exact ⟨rfl, hB1⟩
  have h0' : ((len : Int) == 0) = false := beq_eq_false_iff_ne.2 (by omega)
  have hi1 := Int.emod_nonneg line (show (len : Int) ≠ 0 by omega)
  have hi2 := Int.emod_lt_of_pos line (show (0 : Int) < (len : Int) by omega)
  obtain ⟨i, hi⟩ : ∃ i : Nat, line % (len : Int) = (i : Int) := ⟨(line % (len : Int)).toNat, by omega⟩
  have HN1 := Lib.hid (fun W => number_any line (len : Int) W (by omega) (by omega))
  rw [hi] at HN1 hi2
  have hil : i < l.length := by omega
  have hnl : (nsOf l).length = l.length := by simp [nsOf]
  have hin : i < (nsOf l).length := by omega
  have HN2 := Lib.hid (fun W => number_any l[i] 9 W (by omega) (by omega))
  rw [nsOf_get l i hil] at HN2
  have hni : (nsOf l)[i] ≤ 8 := nsOf_le l _ (List.getElem_mem _)
  obtain ⟨m, hm⟩ : ∃ m, m = (nsOf l)[i] := ⟨_, rfl⟩
  rw [← hm] at HN2 hni
  have hc1 := Int.emod_nonneg col (show ((m : Int) + 1) ≠ 0 by omega)
  have hc2 := Int.emod_lt_of_pos col (show (0 : Int) < (m : Int) + 1 by omega)
  obtain ⟨c, hc⟩ : ∃ c : Nat, col % ((m : Int) + 1) = (c : Int) := ⟨(col % ((m : Int) + 1)).toNat, by omega⟩
  have HN3 := Lib.hid (fun W => number_any col ((m : Int) + 1) W (by omega) (by omega))
  rw [hc] at HN3 hc2
  have HLn : Hid (∀ S : ByteArray, S.data.toList = txt (nsOf l) → lnAt S ((plen ((nsOf l).take i) : Int) + (c : Int)) = (i + 1, c + 1)) := Lib.hid fun S hS => by
    have := ln_lines S (nsOf l) i c hin hS (by omega)
    rw [← this]
    congr 1
  have HTl := Lib.hid (fun k => txt_len 8 ((nsOf l).take k) (fun n hn => nsOf_le l n (List.mem_of_mem_take hn)))
  have HPl := Lib.hid (fun k => plen_le 8 ((nsOf l).take k) (fun n hn => nsOf_le l n (List.mem_of_mem_take hn)))
  have HS := Lib.hid hs
  have HNs := Lib.hid (nsOf_get l)
  have HLe := Lib.hid (nsOf_le l)
  have HNl := Lib.hid hnl
  clear hs hi hc hi1 hc1 h20 h0 hm hl hnl hin
  go_enter Try.func7, Try.ntmps7
  go_wp2_with fail
  refine HF.out.mono ?_
  rintro e w1 ⟨rfl, hB1⟩
  go_wp2_with fail
  refine (HN1.out _).mono ?_
  rintro e w2 ⟨rfl, rfl⟩
  obtain ⟨ad, rfl, hb, hcell⟩ := (HS.out.below hB1).pick hil
  clear HN1 HF
  go_wp2_with fail
  refine (HN2.out _).mono ?_
  rintro e w2 ⟨rfl, rfl⟩
  go_wp2_with fail
  refine (HN3.out _).mono ?_
  rintro e w2 ⟨rfl, rfl⟩
  have HB1 := Lib.hid hB1
  clear hB1 hcell HN2 HN3
  go_wp2
  go_loopw [8, 9, 10] (fun x p k wr => TlO w (nsOf l) i x p k wr) (fun _ _ k _ => len - (intOf k).toNat)
  case atStart => exact ⟨0, ⟨#[]⟩, by omega, rfl, rfl, by simp [plen, txtR], rfl, HB1.out⟩
  case round =>
    obtain ⟨k, S, hk, rfl, hS, rfl, rfl, hB⟩ := hrel
    have hsz := size_of hS
    have htl := HTl.out k
    have hpl := HPl.out (min k i)
    rw [List.length_take] at htl hpl
    by_cases hp : k < len
    · have hkl : k < l.length := by have := HL.out; omega
      obtain ⟨ad', he', hb', hcell⟩ := (HS.out.below hB).pick hkl
      cases he'
      have HN := Lib.hid (fun W => number_any l[k] 9 W (by omega) (by omega))
      rw [HNs.out k hkl] at HN
      have hnk : (nsOf l)[k]'(by have := HNl.out; omega) ≤ 8 := HLe.out _ (List.getElem_mem _)
      have HT := Lib.hid (take_snoc (nsOf l) k (by have := HNl.out; omega))
      obtain ⟨n, hn⟩ : ∃ n, n = (nsOf l)[k]'(by have := HNl.out; omega) := ⟨_, rfl⟩
      rw [← hn] at HN hnk HT
      have hzS : S.size ≤ 660 := by omega
      have hpl2 : plen ((nsOf l).take (min k i)) ≤ 180 := by omega
      obtain ⟨P, hP⟩ : ∃ P, P = plen ((nsOf l).take (min k i)) := ⟨_, rfl⟩
      rw [← hP] at hpl2 ⊢
      have HP := Lib.hid hP
      have HSd := Lib.hid hS
      have HB := Lib.hid hB
      clear hn hS hsz htl hpl hP
      go_wp2_with fail
      refine (HN.out _).mono ?_
      rintro e w2 ⟨rfl, rfl⟩
      clear hcell HN hB
      go_wp2
      go_loopw [8, 12] (fun x j wr => TlI w (nsOf l) k n x j wr) (fun _ j _ => n - (intOf j).toNat)
      case atStart => exact ⟨0, S, by omega, rfl, by rw [HSd.out]; simp [seg], rfl, HB.out⟩
      case round =>
        obtain ⟨j, T, hj, rfl, hT, rfl, hBj⟩ := hrel
        have hzT := size_of hT
        rw [List.length_append, ← size_of HSd.out] at hzT
        have hsl := seg_len j
        have hzT2 : T.size ≤ 700 := by omega
        have HTd := Lib.hid hT
        clear hT hzT hsl
        by_cases hjn : j < n
        · have HBj := Lib.hid hBj
          rcases mod3 j with ⟨h3, h3'⟩ | ⟨h3, h3'⟩ | ⟨h3, h3'⟩
          · have HG : Hid ((T ++ ⟨#[97]⟩).data.toList = txt ((nsOf l).take k) ++ seg (j + 1)) := Lib.hid (by rw [ByteArray.data_append, Array.toList_append, HTd.out, seg, pcB, if_pos h3, List.append_assoc])
            clear hBj h3 HTd
            go_wp2
            go_roundw
            case rel => exact ⟨j + 1, _, by omega, rfl, HG.out, by go_num, HBj.out.alloc HBj.out.size _⟩
            case measure => simp [intOf]; omega
          · have HG : Hid ((T ++ ⟨#[206, 177]⟩).data.toList = txt ((nsOf l).take k) ++ seg (j + 1)) := Lib.hid (by rw [ByteArray.data_append, Array.toList_append, HTd.out, seg, pcB, if_neg (by omega), if_pos h3, List.append_assoc])
            clear hBj h3 HTd
            go_wp2
            go_roundw
            case rel => exact ⟨j + 1, _, by omega, rfl, HG.out, by go_num, HBj.out.alloc HBj.out.size _⟩
            case measure => simp [intOf]; omega
          · have HG : Hid ((T ++ ⟨#[240, 159, 152, 128]⟩).data.toList = txt ((nsOf l).take k) ++ seg (j + 1)) := Lib.hid (by rw [ByteArray.data_append, Array.toList_append, HTd.out, seg, pcB, if_neg (by omega), if_neg (by omega), List.append_assoc])
            clear hBj h3 HTd
            go_wp2
            go_roundw
            case rel => exact ⟨j + 1, _, by omega, rfl, HG.out, by go_num, HBj.out.alloc HBj.out.size _⟩
            case measure => simp [intOf]; omega
        · obtain rfl : j = n := by omega
          have HG : Hid ((T ++ ⟨#[10]⟩).data.toList = txt ((nsOf l).take (k + 1))) := Lib.hid (by rw [ByteArray.data_append, Array.toList_append, HTd.out, HT.out, txt_append, List.append_assoc]; rfl)
          have HBj := Lib.hid hBj
          clear hBj hjn hj
          by_cases hki : k < i
          · have HP2 : Hid (P + j + 1 = plen ((nsOf l).take (min (k + 1) i))) := Lib.hid (by
              rw [HP.out, show min k i = k by omega, show min (k + 1) i = k + 1 by omega, HT.out, plen_snoc])
            go_wp2
            go_roundw
            case rel => exact ⟨k + 1, _, by have := HNl.out; have := HL.out; omega, rfl, HG.out, by rw [← HP2.out]; go_num, by go_num, HBj.out⟩
            case measure => simp [intOf]; omega
          · have HP2 : Hid (P = plen ((nsOf l).take (min (k + 1) i))) := Lib.hid (by
              rw [HP.out, show min k i = i by omega, show min (k + 1) i = i by omega])
            go_wp2
            go_roundw
            case rel => exact ⟨k + 1, _, by have := HNl.out; have := HL.out; omega, rfl, HG.out, by rw [← HP2.out], by go_num, HBj.out⟩
            case measure => simp [intOf]; omega
    · obtain rfl : k = len := by have := HNl.out; have := HL.out; omega
      have HA : Hid (S.data.toList = txt (nsOf l)) := Lib.hid (by rw [hS, List.take_of_length_le (by have := HNl.out; have := HL.out; omega)])
      have HLn2 := Lib.hid (HLn.out S HA.out)
      have HLi := Lib.hid (fun p W => line_any S p W (by omega))
      rw [show min k i = i by omega] at hpl ⊢
      obtain ⟨P, hP⟩ : ∃ P, P = plen ((nsOf l).take i) := ⟨_, rfl⟩
      rw [← hP] at HLn2 hpl ⊢
      have HX := Lib.hid (fun W => HLi.out ((P : Int) + (c : Int)) W)
      rw [HLn2.out] at HX
      have HB := Lib.hid hB
      have hpl2 : P ≤ 180 := by omega
      clear hP hS hsz htl hpl hp hk hB HLn HLn2 HLi HA
      go_wp2_with fail
      refine (HX.out _).mono ?_
      rintro e w6 ⟨rfl, hB6⟩
      go_wp2
      go_ret
      exact ⟨rfl, HB.out.trans (hB6.mono HB.out.size)⟩
end Go.Proofs.Ytebijoipopiohaa
