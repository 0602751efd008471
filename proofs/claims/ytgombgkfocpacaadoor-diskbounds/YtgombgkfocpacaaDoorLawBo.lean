/-
  The walk of DiskBounds. Conditions: the theorem's own premises.
-/
import Derived.Test.YtgombgkfocpacaaDoorDkErr
import Derived.Test.YtgombgkfocpacaaDoorDkFrame21
import Derived.Test.YtgombgkfocpacaaDoorNumb
namespace Go.Proofs.YtgombgkfocpacaaDoor
open Go.RowKit Go.Maps

set_option maxRecDepth 100000 in
set_option maxHeartbeats 1000000 in
theorem diskBounds_none (a i n : Int) (w : World) (ads : List Addr) (hS : Sents w ads) (h : a < 1 ∨ 16384 < a) :
    Calls Tryd.prog 7 #[.int .i64 a, .int .i64 i, .int .i64 n] w (RetYes w) := by
  have HS := Lib.hid hS
  clear hS
  by_cases h1 : a < 1
  all_goals
    try have h2 : 16384 < a := by omega
    have HH := Lib.hid h
    clear h
    go_enter Tryd.func7, Tryd.ntmps7
    go_wp2_with fail
    refine (first_any w).mono ?_
    rintro e w1 ⟨rfl, hB1⟩
    have HB1 := Lib.hid hB1
    clear hB1
    go_wp2_with fail
    refine (number_any n 300 _ (by omega) (by omega)).mono ?_
    rintro e w2 ⟨rfl, rfl⟩
    go_wp2_with fail
    refine (new_err a w1 _ _ _ _ (es_of (HS.out.later HB1.out)) HH.out).mono ?_
    rintro e w3 ⟨rfl, hB3⟩
    have HB3 := Lib.hid (HB1.out.trans (hB3.mono HB1.out.size))
    clear hB3
    go_wp2_with fail
    refine (is_err w3 ads 3 _ 104 rfl (HS.out.later HB3.out) (ads_at HS.out 3 (by omega))).mono ?_
    rintro e w4 ⟨rfl, hB4⟩
    have HB4 := Lib.hid (HB3.out.trans (hB4.mono HB3.out.size))
    clear hB4
    go_wp2
    go_ret
    exact ⟨rfl, HB4.out⟩

set_option maxRecDepth 100000 in
set_option maxHeartbeats 1000000 in
theorem diskBounds_some (a : Nat) (i n : Int) (w : World) (ads : List Addr) (hS : Sents w ads) (h1 : 1 ≤ a) (h2 : a ≤ 16384) :
    Calls Tryd.prog 7 #[.int .i64 (a : Int), .int .i64 i, .int .i64 n] w (RetYes w) := by
  have HS := Lib.hid hS
  clear hS
  have i1 : ¬ (a : Int) < 1 := by omega
  have i2 : ¬ (16384 : Int) < a := by omega
  go_enter Tryd.func7, Tryd.ntmps7
  go_wp2_with fail
  refine (first_any w).mono ?_
  rintro e w1 ⟨rfl, hB1⟩
  have HB1 := Lib.hid hB1
  clear hB1
  go_wp2_with fail
  refine (number_any n 300 _ (by omega) (by omega)).mono ?_
  rintro e w2 ⟨rfl, rfl⟩
  obtain ⟨q, hq, hq3⟩ : ∃ q : Nat, n % 300 = (q : Int) ∧ q < 300 := ⟨(n % 300).toNat, by omega, by omega⟩
  rw [hq]
  clear hq
  go_wp2_with fail
  refine (new_ok a w1 h1 h2).mono ?_
  rintro e w3 ⟨g, f, m, rfl, hg, hf, hm, hD3, hB3⟩
  have HB3 := Lib.hid (HB1.out.trans (hB3.mono HB1.out.size))
  have hg' : w.heap.size ≤ g := Nat.le_trans HB1.out.size hg
  have hf' : w.heap.size ≤ f := Nat.le_trans HB1.out.size hf
  have hm' : w.heap.size ≤ m := Nat.le_trans HB1.out.size hm
  have hlen : (newD a).kept.length = a := by simp [newD]
  obtain ⟨k3, hH3, _, _⟩ := hD3.head
  rw [hlen] at hH3
  have HH3 := Lib.hid hH3
  have HD3 := Lib.hid hD3
  have hgl := hD3.gl
  clear hD3 hB3 HB1 hg hf hm hH3
  go_wp2_with fail
  refine (sectors_head g f m a k3 _ _ _ w3 HH3.out).mono ?_
  rintro e w4 ⟨rfl, rfl⟩
  have hmk := fun W => make_bytes q W (by omega)
  go_wp2_with fail
  have hF5 : Fr [] w4 (w4.alloc (.cells (zeroB q) 5)) := (Fr.refl [] w4).alloc _
  have HD5 := Lib.hid (HD3.out.fr hF5 (by simp) (by simp) (by simp))
  have HB5 := Lib.hid (below_fr HB3.out hF5 HB3.out.size (by simp))
  have HStr := Lib.hid (str_zero q w4)
  have hB6 : w4.heap.size + 1 ≤ (w4.alloc (.cells (zeroB q) 5)).heap.size := by simp
  generalize w4.alloc (.cells (zeroB q) 5) = w5 at *
  clear hF5 HD3 HH3 HB3 hmk
  by_cases hi : 0 ≤ i ∧ i < (a : Int)
  · obtain ⟨j, rfl⟩ : ∃ j : Nat, i = (j : Int) := ⟨i.toNat, by omega⟩
    have hja : j < a := by omega
    have hjaI : (j : Int) < a := by omega
    by_cases hq1 : 128 < q
    · have hq1I : (128 : Int) < q := by omega
      refine (write_err g f m (newD a) (j : Int) _ q q w5 _ _ _ _ HD5.out (es_of (HS.out.later HB5.out)) (es_low (es_of HS.out) hg') (by simp [newD]) (.inr (.inr hq1))).mono ?_
      rw [show powN (newD a).armed (newD a).down = false from rfl, if_neg (by simp), if_neg (by rw [hlen]; omega)]
      rintro e w6 ⟨rfl, hD6, hF6⟩
      have HB6 := Lib.hid (below_fr HB5.out hF6 HB5.out.size (by simp; omega))
      have HD6 : Hid (Dk w6 g f m (newD a)) := Lib.hid hD6
      clear hD6 hF6 HD5 HB5 HStr hi
      go_wp2_with fail
      refine (read_ok g f m (newD a) j w6 HD6.out rfl (by rw [hlen]; exact hja)).mono ?_
      rw [show lookD (newD a) j = none from by show (List.replicate a none).getD j none = none; rw [List.getD, List.getElem?_replicate, if_pos hja]; rfl]
      rintro e w7 ⟨hB7, he⟩
      obtain rfl : e = .returned (.tuple #[.slice none 0 0, .bool false, .nilIface]) := he
      have HB7 := Lib.hid (HB6.out.trans (hB7.mono HB6.out.size))
      have HD7 := Lib.hid (HD6.out.fr ((Fr.refl [] _).belows hB7 (Nat.le_refl _)) (by simp) (by simp) (by simp))
      clear hB7 HD6 HB6
      go_wp2_with fail
      refine (is_err w7 ads 2 _ 103 rfl (HS.out.later HB7.out) (ads_at HS.out 2 (by omega))).mono ?_
      rintro e w8 ⟨rfl, hB8⟩
      have HB8 := Lib.hid (HB7.out.trans (hB8.mono HB7.out.size))
      have hD8 := HD7.out.fr ((Fr.refl [] _).belows hB8 (Nat.le_refl _)) (by simp) (by simp) (by simp)
      obtain ⟨k8, hH8, _, _⟩ := hD8.head
      have HH8 := Lib.hid hH8
      clear hB8 HD7 HB7 hD8 hH8
      go_wp2_with fail
      refine (calls_head g f m _ k8 _ _ _ w8 HH8.out).mono ?_
      rintro e w9 ⟨rfl, rfl⟩
      rw [show (newD a).calls = 0 from rfl]
      go_wp2
      go_ret
      exact ⟨rfl, HB8.out⟩
    · have hq1I : ¬ (128 : Int) < q := by omega
      have hw := write_ok g f m (newD a) (j : Int) _ _ q (List.replicate q 0) w5 HD5.out rfl (by rw [hlen]; omega) (by rw [List.length_replicate]; omega) HStr.out hB6 (by intro ad e _; cases e; show w4.heap.size ≠ g; omega) (by simp [newD]) (by simp [newD])
      rw [List.length_replicate] at hw
      refine hw.mono ?_
      rintro e w6 ⟨rfl, hD6, hF6⟩
      have HB6 := Lib.hid (below_fr HB5.out hF6 HB5.out.size (by simp; omega))
      have HD6 : Hid (Dk w6 g f m ⟨(newD a).kept, [((j : Int), List.replicate q 0)], 1, 0, false⟩) := Lib.hid hD6
      clear hD6 hF6 HD5 HB5 HStr hw hi
      go_wp2_with fail
      refine (read_ok g f m _ j w6 HD6.out rfl (by show j < (newD a).kept.length; rw [hlen]; exact hja)).mono ?_
      rw [show lookD ⟨(newD a).kept, [((j : Int), List.replicate q 0)], 1, 0, false⟩ j = some (List.replicate q 0) from by simp [lookD, getP]]
      rintro e w7 ⟨hB7, hx, cx, rfl, hxl, hst7, hle7, _⟩
      have HB7 := Lib.hid (HB6.out.trans (hB7.mono HB6.out.size))
      have hD7 := HD6.out.fr ((Fr.refl [] _).belows hB7 (Nat.le_refl _)) (by simp) (by simp) (by simp)
      have HM7 := Lib.hid hD7.map
      obtain ⟨k8, hH8, _, _⟩ := hD7.head
      have HH8 := Lib.hid hH8
      clear hB7 HD6 HB6 hst7 hD7 hH8
      go_wp2_with fail
      refine (pending_head g f m _ k8 _ _ _ w7 HH8.out HM7.out).mono ?_
      rintro e w8 ⟨rfl, rfl⟩
      rw [show (([((j : Int), List.replicate q 0)] : Pend).length : Int) = 1 from rfl]
      go_wp2_with fail
      refine (calls_head g f m _ k8 _ _ _ w8 HH8.out).mono ?_
      rintro e w9 ⟨rfl, rfl⟩
      go_wp2
      go_ret
      exact ⟨rfl, HB7.out⟩
  · have HI := Lib.hid hi
    refine (write_err g f m (newD a) i _ q q w5 _ _ _ _ HD5.out (es_of (HS.out.later HB5.out)) (es_low (es_of HS.out) hg') (by simp [newD]) (.inr (.inl (by rw [hlen]; exact hi)))).mono ?_
    rw [show powN (newD a).armed (newD a).down = false from rfl, if_neg (by simp), if_pos (by rw [hlen]; exact hi)]
    rintro e w6 ⟨rfl, hD6, hF6⟩
    have HB6 := Lib.hid (below_fr HB5.out hF6 HB5.out.size (by simp; omega))
    have HD6 : Hid (Dk w6 g f m (newD a)) := Lib.hid hD6
    clear hD6 hF6 HD5 HB5 HStr
    by_cases hi0 : i < 0
    case' neg => have hia : (a : Int) ≤ i := by omega
    all_goals
      clear hi
      go_wp2_with fail
      refine (read_full g f m (newD a) i w6 _ _ _ _ HD6.out (es_of (HS.out.later HB6.out)) rfl (by rw [hlen]; exact HI.out)).mono ?_
      rintro e w7 ⟨rfl, hB7⟩
      have HB7 := Lib.hid (HB6.out.trans (hB7.mono HB6.out.size))
      have HD7 := Lib.hid (HD6.out.fr ((Fr.refl [] _).belows hB7 (Nat.le_refl _)) (by simp) (by simp) (by simp))
      clear hB7 HD6 HB6
      go_wp2_with fail
      refine (is_err w7 ads 17 _ 118 rfl (HS.out.later HB7.out) (ads_at HS.out 17 (by omega))).mono ?_
      rintro e w8 ⟨rfl, hB8⟩
      have HB8 := Lib.hid (HB7.out.trans (hB8.mono HB7.out.size))
      have HD8 := Lib.hid (HD7.out.fr ((Fr.refl [] _).belows hB8 (Nat.le_refl _)) (by simp) (by simp) (by simp))
      clear hB8 HD7 HB7
      go_wp2_with fail
      refine (is_err w8 ads 17 _ 118 rfl (HS.out.later HB8.out) (ads_at HS.out 17 (by omega))).mono ?_
      rintro e w9 ⟨rfl, hB9⟩
      have HB9 := Lib.hid (HB8.out.trans (hB9.mono HB8.out.size))
      have hD9 := HD8.out.fr ((Fr.refl [] _).belows hB9 (Nat.le_refl _)) (by simp) (by simp) (by simp)
      have HM9 := Lib.hid hD9.map
      obtain ⟨k8, hH8, _, _⟩ := hD9.head
      have HH8 := Lib.hid hH8
      clear hB9 HD8 HB8 hD9 hH8
      go_wp2_with fail
      refine (pending_head g f m _ k8 _ _ _ w9 HH8.out HM9.out).mono ?_
      rintro e w10 ⟨rfl, rfl⟩
      rw [show ((newD a).pend.length : Int) = 0 from rfl]
      go_wp2
      go_ret
      exact ⟨rfl, HB9.out⟩

theorem diskBounds_walk (a i n : Int) (w : World) (_ : (Lit.int .i64 a).wf = true) (_ : (Lit.int .i64 i).wf = true) (_ : (Lit.int .i64 n).wf = true) (hL : laidMetH Tryd.prog laid21 w) :
    Calls Tryd.prog 7 #[.int .i64 a, .int .i64 i, .int .i64 n] w (RetYes w) := by
  obtain ⟨ads, hS⟩ := sents_of hL
  by_cases h : a < 1 ∨ 16384 < a
  · exact diskBounds_none a i n w ads hS h
  · obtain ⟨k, rfl⟩ : ∃ k : Nat, a = (k : Int) := ⟨a.toNat, by omega⟩
    exact diskBounds_some k i n w ads hS (by omega) (by omega)
end Go.Proofs.YtgombgkfocpacaaDoor
