/-
  The walk of TextNames. Conditions: none.
-/
import Derived.Test.YtebijoipopiohaaQTxN
import Derived.Test.YtebijoipopiohaaQNumb
namespace Go.Proofs.Ytebijoipopiohaa
open Go.Shelf Go.RowKit Go.Lib

theorem run_rune_string (r : Int) (W : World) : (convert 35 9 (.slice (some ⟨W.heap.size, 0, none⟩) 1 1)).run Try.prog (W.alloc (.cells #[.int .i32 r] 21)).drew = .ok (.string (Utf8.encode r)) (W.alloc (.cells #[.int .i32 r] 21)).drew := by
  rw [run_convert_runes _ _ _ 21 _ 1 1 [r] (by simp) Try.underlying35 Try.underlying21 Try.underlying9 (fun j hj => by
    obtain rfl : j = 0 := by simpa using hj
    simp [Addr.add])]
  simp [runesBytes]

theorem size_as {S : ByteArray} {n : Nat} (h : S.data.toList = List.replicate n 97) : S.size = n := by have := congrArg List.length h; simpa using this

set_option maxRecDepth 100000 in
set_option maxHeartbeats 4000000 in
theorem textNames_walk (n a r : Int) (w : World) (_ : (Lit.int .i64 n).wf = true) (_ : (Lit.int .i64 a).wf = true) (_ : (Lit.int .i32 r).wf = true) : Calls Try.prog 6 #[.int .i64 n, .int .i64 a, .int .i32 r] w (RetYes w) := by
  have HF := Lib.hid (first_any w)
  have hi1 := Int.emod_nonneg n (show (30 : Int) ≠ 0 by decide)
  have hi2 := Int.emod_lt_of_pos n (show (0 : Int) < 30 by decide)
  obtain ⟨m, hm⟩ : ∃ m : Nat, n % 30 = (m : Int) := ⟨(n % 30).toNat, by omega⟩
  have HN := Lib.hid (fun W => number_any n 30 W (by decide) (by decide))
  rw [hm] at HN hi2
  have HL := Lib.hid (fun W => letter_any r W)
  have HD := Lib.hid (fun W => digit_any r W)
  have HNm := Lib.hid (fun s W => name_any s W)
  clear hm hi1
  go_enter Try.func6, Try.ntmps6
  go_wp2_with fail
  refine HF.out.mono ?_
  rintro e w1 ⟨rfl, hB1⟩
  go_wp2_with fail
  refine (HN.out _).mono ?_
  rintro e w2 ⟨rfl, rfl⟩
  have HB1 := Lib.hid hB1
  clear hB1 HN HF
  go_wp2
  go_loop [8, 9] (fun x i => ∃ (k : Nat) (S : ByteArray), k ≤ m ∧ x = .string S ∧ S.data.toList = List.replicate k 97 ∧ i = .int .i64 (k : Int)) (fun _ i => m - (intOf i).toNat)
  case atStart => exact ⟨0, ⟨#[]⟩, by omega, rfl, rfl, rfl⟩
  case round =>
    obtain ⟨k, S, hk, rfl, hS, rfl⟩ := hrel
    have hz := size_as hS
    by_cases hp : k < m
    · have HG : Hid ((S ++ ⟨#[97]⟩).data.toList = List.replicate (k + 1) 97) := Lib.hid (by rw [ByteArray.data_append, Array.toList_append, hS, List.replicate_succ'])
      have hz2 : S.size ≤ 30 := by omega
      clear hS hz
      go_wp2
      go_round
      case rel => exact ⟨k + 1, _, by omega, rfl, HG.out, by go_num⟩
      case measure => simp [intOf]; omega
    · obtain rfl : k = m := by omega
      have HSd := Lib.hid hS
      have hNa := name_as S k hS
      have HNa := Lib.hid (fun W => HNm.out S W)
      have hz2 : S.size ≤ 30 := by omega
      have HZ := Lib.hid hz
      clear hS hz hp hk
      by_cases h1 : k < 1
      · rw [hNa, decide_eq_false (by omega)] at HNa
        clear hNa
        go_wp2_with fail
        refine (HNa.out _).mono ?_
        rintro e w2 ⟨rfl, hB2⟩
        go_wp2
        go_ret
        exact ⟨rfl, HB1.out.trans (hB2.mono HB1.out.size)⟩
      by_cases h24 : 24 < k
      · rw [hNa, decide_eq_false (by omega)] at HNa
        clear hNa
        go_wp2_with fail
        refine (HNa.out _).mono ?_
        rintro e w2 ⟨rfl, hB2⟩
        go_wp2
        go_ret
        exact ⟨rfl, HB1.out.trans (hB2.mono HB1.out.size)⟩
      rw [hNa, decide_eq_true (by omega)] at HNa
      clear hNa
      have h1' : 1 ≤ k := by omega
      have h24' : k ≤ 24 := by omega
      have hd24 : decide ((k : Int) ≤ 24) = true := by simp; omega
      clear h1 h24
      by_cases h2 : k < 2
      · go_wp2_with fail
        refine (HNa.out _).mono ?_
        rintro e w2 ⟨rfl, hB2⟩
        go_wp2
        go_ret
        exact ⟨rfl, HB1.out.trans (hB2.mono HB1.out.size)⟩
      have h2' : 2 ≤ k := by omega
      clear h2 h1'
      by_cases h20 : 20 < k
      · go_wp2_with fail
        refine (HNa.out _).mono ?_
        rintro e w2 ⟨rfl, hB2⟩
        go_wp2
        go_ret
        exact ⟨rfl, HB1.out.trans (hB2.mono HB1.out.size)⟩
      have h20' : k ≤ 20 := by omega
      clear h20 h24'
      by_cases hr0 : r < 0
      · go_wp2_with fail
        refine (HNa.out _).mono ?_
        rintro e w2 ⟨rfl, hB2⟩
        go_wp2
        go_ret
        exact ⟨rfl, HB1.out.trans (hB2.mono HB1.out.size)⟩
      have hr0' : 0 ≤ r := by omega
      clear hr0
      by_cases hr1 : 1114111 < r
      · go_wp2_with fail
        refine (HNa.out _).mono ?_
        rintro e w2 ⟨rfl, hB2⟩
        go_wp2
        go_ret
        exact ⟨rfl, HB1.out.trans (hB2.mono HB1.out.size)⟩
      have hr1' : r ≤ 1114111 := by omega
      clear hr1
      by_cases hr2 : 55296 ≤ r ∧ r ≤ 57343
      · obtain ⟨hr3, hr4⟩ := hr2
        go_wp2_with fail
        refine (HNa.out _).mono ?_
        rintro e w2 ⟨rfl, hB2⟩
        go_wp2
        go_ret
        exact ⟨rfl, HB1.out.trans (hB2.mono HB1.out.size)⟩
      have hr2' : r < 55296 ∨ 57343 < r := by omega
      clear hr2
      have hj1 := Int.emod_nonneg a (show (k : Int) ≠ 0 by omega)
      have hj2 := Int.emod_lt_of_pos a (show (0 : Int) < (k : Int) by omega)
      obtain ⟨j, hj⟩ : ∃ j : Nat, a % (k : Int) = (j : Int) := ⟨(a % (k : Int)).toNat, by omega⟩
      have HN2 := Lib.hid (fun W => number_any a (k : Int) W (by omega) (by omega))
      rw [hj] at HN2 hj2
      have hcv : ∀ W : World, (convert 35 9 (.slice (some ⟨W.heap.size, 0, none⟩) 1 1)).run Try.prog (W.alloc (.cells #[.int .i32 r] 21)).drew = .ok (.string (Utf8.encode r)) (W.alloc (.cells #[.int .i32 r] 21)).drew := run_rune_string r
      have hE4 := encode_size_le r
      have hXn := name_mid S (Utf8.encode r) k j r HSd.out ⟨h2', h20'⟩ (by omega) rfl hr0' hr1' hr2'
      obtain ⟨E, hE⟩ : ∃ E, E = Utf8.encode r := ⟨_, rfl⟩
      rw [← hE] at hcv hE4 hXn
      have HX := Lib.hid (fun W => HNm.out (S.extract 0 j ++ E ++ S.extract j S.size) W)
      have HF1 := Lib.hid (fun W => HNm.out ⟨#[102, 98, 121]⟩ W)
      have HF2 := Lib.hid (fun W => HNm.out ⟨#[]⟩ W)
      have HIs := Lib.hid (fun W => is_any ⟨#[102, 98, 121]⟩ W)
      rw [show kwB ⟨#[102, 98, 121]⟩ = true by decide] at HIs
      rw [name_fby] at HF1
      rw [name_none] at HF2
      rw [hXn] at HX
      have hjS : j < S.size := by have := HZ.out; omega
      clear hj hj1 hE hXn HNm
      have HRI : Hid (r < 55296 ∨ (55296 ≤ r ∧ 57343 < r)) := Lib.hid (by omega)
      clear hr2'
      rcases HRI.out with hr3 | ⟨hr3, hr4⟩
      all_goals
        clear HRI
        go_wp2_with fail
        refine (HNa.out _).mono ?_
        rintro e w2 ⟨rfl, hB2⟩
        go_wp2_with fail
        refine (HN2.out _).mono ?_
        rintro e w3 ⟨rfl, rfl⟩
        have HB2 := Lib.hid (HB1.out.trans (hB2.mono HB1.out.size))
        clear hB2 HNa HN2 HB1
        go_wp2
        go_region
        have HB3 := Lib.hid ((HB2.out.alloc HB2.out.size (.cells #[.int .i32 r] 21)).drew)
        generalize (w2.alloc (.cells #[.int .i32 r] 21)).drew = W3 at *
        generalize S.extract 0 j ++ E ++ S.extract j S.size = X at *
        clear HB2 hcv hjS hE4
        cases hlet : letB r
        · rw [hlet] at HL
          by_cases hj0 : j = 0
          · have hj1 : ¬ (0 : Int) < j := by omega
            rw [show ok1 (decide (j ≠ 0)) r = false by simp [ok1, hlet, hj0]] at HX
            clear hlet hj0
            go_wp2_with fail
            refine (HL.out _).mono ?_
            rintro e w4 ⟨rfl, rfl⟩
            go_wp2_with fail
            refine (HX.out _).mono ?_
            rintro e w5 ⟨rfl, hB5⟩
            go_wp2_with fail
            refine (HF1.out _).mono ?_
            rintro e w6 ⟨rfl, hB6⟩
            go_wp2_with fail
            refine (HF2.out _).mono ?_
            rintro e w7 ⟨rfl, hB7⟩
            go_wp2_with fail
            refine (HIs.out _).mono ?_
            rintro e w8 ⟨rfl, hB8⟩
            go_wp2
            go_ret
            exact ⟨rfl, HB3.out.trans ((hB5.trans ((hB6.trans ((hB7.trans (hB8.mono hB7.size)).mono hB6.size)).mono hB5.size)).mono HB3.out.size)⟩
          · have hj0' : 0 < j := by omega
            have hj1 : (0 : Int) < j := by omega
            cases hdig : digB r
            · rw [hdig] at HD
              by_cases h95 : r = 95
              · have h95' : (r == 95) = true := by simp [h95]
                rw [show ok1 (decide (j ≠ 0)) r = true by simp [ok1, hj0, h95]] at HX
                clear hlet hdig hj0 h95
                go_wp2_with fail
                refine (HL.out _).mono ?_
                rintro e w4 ⟨rfl, rfl⟩
                go_wp2_with fail
                refine (HD.out _).mono ?_
                rintro e w4 ⟨rfl, rfl⟩
                go_wp2_with fail
                refine (HX.out _).mono ?_
                rintro e w5 ⟨rfl, hB5⟩
                go_wp2_with fail
                refine (HF1.out _).mono ?_
                rintro e w6 ⟨rfl, hB6⟩
                go_wp2_with fail
                refine (HF2.out _).mono ?_
                rintro e w7 ⟨rfl, hB7⟩
                go_wp2_with fail
                refine (HIs.out _).mono ?_
                rintro e w8 ⟨rfl, hB8⟩
                go_wp2
                go_ret
                exact ⟨rfl, HB3.out.trans ((hB5.trans ((hB6.trans ((hB7.trans (hB8.mono hB7.size)).mono hB6.size)).mono hB5.size)).mono HB3.out.size)⟩
              · have h95' : (r == 95) = false := beq_eq_false_iff_ne.2 h95
                rw [show ok1 (decide (j ≠ 0)) r = false by simp [ok1, hlet, hdig, h95]] at HX
                clear hlet hdig hj0 h95
                go_wp2_with fail
                refine (HL.out _).mono ?_
                rintro e w4 ⟨rfl, rfl⟩
                go_wp2_with fail
                refine (HD.out _).mono ?_
                rintro e w4 ⟨rfl, rfl⟩
                go_wp2_with fail
                refine (HX.out _).mono ?_
                rintro e w5 ⟨rfl, hB5⟩
                go_wp2_with fail
                refine (HF1.out _).mono ?_
                rintro e w6 ⟨rfl, hB6⟩
                go_wp2_with fail
                refine (HF2.out _).mono ?_
                rintro e w7 ⟨rfl, hB7⟩
                go_wp2_with fail
                refine (HIs.out _).mono ?_
                rintro e w8 ⟨rfl, hB8⟩
                go_wp2
                go_ret
                exact ⟨rfl, HB3.out.trans ((hB5.trans ((hB6.trans ((hB7.trans (hB8.mono hB7.size)).mono hB6.size)).mono hB5.size)).mono HB3.out.size)⟩
            · rw [hdig] at HD
              rw [show ok1 (decide (j ≠ 0)) r = true by simp [ok1, hj0, hdig]] at HX
              clear hlet hdig hj0
              go_wp2_with fail
              refine (HL.out _).mono ?_
              rintro e w4 ⟨rfl, rfl⟩
              go_wp2_with fail
              refine (HD.out _).mono ?_
              rintro e w4 ⟨rfl, rfl⟩
              go_wp2_with fail
              refine (HX.out _).mono ?_
              rintro e w5 ⟨rfl, hB5⟩
              go_wp2_with fail
              refine (HF1.out _).mono ?_
              rintro e w6 ⟨rfl, hB6⟩
              go_wp2_with fail
              refine (HF2.out _).mono ?_
              rintro e w7 ⟨rfl, hB7⟩
              go_wp2_with fail
              refine (HIs.out _).mono ?_
              rintro e w8 ⟨rfl, hB8⟩
              go_wp2
              go_ret
              exact ⟨rfl, HB3.out.trans ((hB5.trans ((hB6.trans ((hB7.trans (hB8.mono hB7.size)).mono hB6.size)).mono hB5.size)).mono HB3.out.size)⟩
        · rw [hlet] at HL
          rw [show ok1 (decide (j ≠ 0)) r = true by simp [ok1, hlet]] at HX
          clear hlet
          go_wp2_with fail
          refine (HL.out _).mono ?_
          rintro e w4 ⟨rfl, rfl⟩
          go_wp2_with fail
          refine (HX.out _).mono ?_
          rintro e w5 ⟨rfl, hB5⟩
          go_wp2_with fail
          refine (HF1.out _).mono ?_
          rintro e w6 ⟨rfl, hB6⟩
          go_wp2_with fail
          refine (HF2.out _).mono ?_
          rintro e w7 ⟨rfl, hB7⟩
          go_wp2_with fail
          refine (HIs.out _).mono ?_
          rintro e w8 ⟨rfl, hB8⟩
          go_wp2
          go_ret
          exact ⟨rfl, HB3.out.trans ((hB5.trans ((hB6.trans ((hB7.trans (hB8.mono hB7.size)).mono hB6.size)).mono hB5.size)).mono HB3.out.size)⟩
end Go.Proofs.Ytebijoipopiohaa
