/-
  The walk of TextCuts. Conditions: none.
-/
import Derived.Test.YtebijoipopiohaaQTxG
import Derived.Test.YtebijoipopiohaaQNumb
namespace Go.Proofs.Ytebijoipopiohaa
open Go.Shelf Go.RowKit Go.Lib

/-- A rune that is none of ASCII has no byte of ASCII. -/
theorem dec_high (l : List UInt8) (h : l ≠ []) (h0 : 128 ≤ (l[0]?.getD 0).toNat) : 128 ≤ (dec l).1 ∧ ∀ u ∈ l.take (dec l).2, 128 ≤ u.toNat := by
  have key : ∀ n, n ≤ 4 → (∀ j, j < n → 128 ≤ (l[j]?.getD 0).toNat) → n ≤ l.length → ∀ u ∈ l.take n, 128 ≤ u.toNat := by
    intro n _ hj hn u hu
    obtain ⟨j, hj1, rfl⟩ := List.mem_iff_getElem.1 hu
    simp at hj1
    have h2 : j < n := by omega
    have h3 : j < l.length := by omega
    have := hj j h2
    rw [List.getElem?_eq_getElem h3] at this
    simpa using this
  have hl : 1 ≤ l.length := by cases l with | nil => exact absurd rfl h | cons a t => simp
  have one : ∀ u ∈ l.take 1, 128 ≤ u.toNat := key 1 (by omega) (fun j hj => by
    obtain rfl : j = 0 := by omega
    exact h0) hl
  unfold dec decodeN
  split
  · omega
  · split
    · rename_i h2
      split
      · exact ⟨by assumption, key 2 (by omega) (fun j hj => by
          rcases (by omega : j = 0 ∨ j = 1) with rfl | rfl
          · exact h0
          · omega) (by omega)⟩
      · exact ⟨by decide, one⟩
    · split
      · rename_i h3
        split
        · rename_i h4
          exact ⟨by show 128 ≤ _; have := h4.1; omega, key 3 (by omega) (fun j hj => by
            rcases (by omega : j = 0 ∨ j = 1 ∨ j = 2) with rfl | rfl | rfl
            · exact h0
            · omega
            · omega) (by omega)⟩
        · exact ⟨by decide, one⟩
      · split
        · rename_i h3
          split
          · rename_i h4
            exact ⟨by show 128 ≤ _; have := h4.1; omega, key 4 (by omega) (fun j hj => by
              rcases (by omega : j = 0 ∨ j = 1 ∨ j = 2 ∨ j = 3) with rfl | rfl | rfl | rfl
              · exact h0
              · omega
              · omega
              · omega) (by omega)⟩
          · exact ⟨by decide, one⟩
        · exact ⟨by decide, one⟩

/-- New lines of runes, new lines of bytes. -/
theorem nl_pcs : ∀ (n : Nat) (l : List UInt8), l.length ≤ n → (pcs l).countP (fun p => p.1 == 10) = l.count 10
  | 0, l, h => by obtain rfl := List.eq_nil_of_length_eq_zero (Nat.le_zero.1 h); rw [pcs_nil]; rfl
  | n + 1, l, h => by
    by_cases hl : l = []
    · subst hl; rw [pcs_nil]; rfl
    · have h1 := dec_pos l
      have h2 := dec_le l hl
      have ih := nl_pcs n (l.drop (dec l).2) (by simp; omega)
      rw [pcs_cons l hl, List.countP_cons, ih]
      conv => rhs; rw [← List.take_append_drop (dec l).2 l, List.count_append]
      rw [Nat.add_comm]
      congr 1
      rcases Nat.lt_or_ge (l[0]?.getD 0).toNat 128 with h0 | h0
      · cases l with
        | nil => exact absurd rfl hl
        | cons a t =>
          have h0' : a.toNat < 128 := by simpa using h0
          have e : dec (a :: t) = (a.toNat, 1) := by simp [dec, decodeN, h0']
          rw [e]
          by_cases ha : a = 10
          · subst ha; rfl
          · have : a.toNat ≠ 10 := fun h => ha (UInt8.toNat_inj.1 (by simpa using h))
            simp [ha, this]
      · obtain ⟨h3, h4⟩ := dec_high l hl h0
        rw [List.count_eq_zero_of_not_mem (fun hm => by have := h4 _ hm; simp at this)]
        simp
        omega
theorem nums_nl : ∀ (i : Nat) (p : List (Nat × Nat)), (nums i p).countP (fun x => x.2 == 10) = p.countP (fun x => x.1 == 10)
  | _, [] => rfl
  | i, q :: t => by simp [nums, List.countP_cons, nums_nl (i + 1) t]
theorem lc_nl (xs : List (Nat × Nat)) : (lc xs).1 = xs.countP (fun x => x.2 == 10) + 1 := by
  suffices ∀ n (xs : List (Nat × Nat)), xs.length = n → (lc xs).1 = xs.countP (fun x => x.2 == 10) + 1 from this _ xs rfl
  intro n
  induction n with
  | zero => intro xs h; obtain rfl := List.eq_nil_of_length_eq_zero h; rfl
  | succ n ih =>
    intro xs h
    obtain ⟨q, x, rfl⟩ : ∃ q x, xs = q ++ [x] := ⟨xs.dropLast, xs.getLast (by rintro rfl; simp at h), (List.dropLast_concat_getLast _).symm⟩
    have h1 := ih q (by simpa using h)
    rw [lc_snoc, List.countP_append]
    by_cases hx : x.2 = 10
    · simp [lcS, hx, h1]
    · simp [lcS, hx, h1]
theorem nums_lt : ∀ (i : Nat) (p : List (Nat × Nat)), ∀ x ∈ nums i p, x.1 < i + p.length
  | _, [], x, hx => by simp [nums] at hx
  | i, q :: t, x, hx => by
    rcases List.mem_cons.1 hx with rfl | hx
    · simp
    · have := nums_lt (i + 1) t x hx
      simp
      omega
theorem ln_all (s : ByteArray) : (lnAt s (cntR s : Int)).1 = s.data.toList.count 10 + 1 := by
  unfold lnAt
  rw [takeWhile_all _ _ (fun y hy => by
    have := nums_lt 0 _ y hy
    simp [ahead]
    simpa [cntR] using this), lc_nl, runs, nums_nl, nl_pcs _ _ (Nat.le_refl _)]
theorem cuts_join (s : ByteArray) (i k : Nat) (hik : i ≤ k) : ((cutS s 0 i ++ cutS s i k ++ cutS s k (cntR s)).toList == s.toList) = true := by
  have h1 := off_mono s i k hik
  have h2 := off_le s k
  rw [beq_iff_eq, ByteArray.toList_eq, ByteArray.toList_eq]
  unfold cutS
  rw [off_all s (cntR s) (Nat.le_refl _), off_zero]
  generalize off s i = x at *
  generalize off s k = y at *
  simp only [ByteArray.data_append, ByteArray.data_extract, Array.toList_append, Array.toList_extract, List.extract, List.drop_zero, Nat.sub_zero]
  have e3 : (s.data.toList.drop y).take (s.size - y) = s.data.toList.drop y := List.take_of_length_le (by simp)
  rw [e3, List.append_assoc]
  have e4 : (s.data.toList.drop x).take (y - x) ++ s.data.toList.drop y = s.data.toList.drop x := by
    conv => rhs; rw [← List.take_append_drop (y - x) (s.data.toList.drop x)]
    rw [List.drop_drop, show x + (y - x) = y by omega]
  rw [e4, List.take_append_drop]
theorem cutS_size (s : ByteArray) (a b : Nat) : (cutS s a b).size ≤ s.size := by
  unfold cutS
  rw [ByteArray.size_extract]
  omega
theorem count_take {l : List UInt8} {j : Nat} (h : j < l.length) : (l.take (j + 1)).count 10 = (l.take j).count 10 + if l[j] = 10 then 1 else 0 := by
  rw [List.take_succ_eq_append_getElem h, List.count_append]
  congr 1
  by_cases h10 : l[j] = 10
  · simp [h10]
  · simp [h10]

set_option maxRecDepth 100000 in
set_option maxHeartbeats 2000000 in
theorem textCuts_walk (s : ByteArray) (a b : Int) (w : World) (_ : s.size ≤ maxLen) (_ : (Lit.int .i64 a).wf = true) (_ : (Lit.int .i64 b).wf = true) : Calls Try.prog 5 #[.string s, .int .i64 a, .int .i64 b] w (RetYes w) := by
  have HF := Lib.hid (first_any w)
  by_cases h300 : 300 < s.size
  · go_enter Try.func5, Try.ntmps5
    go_wp2_with fail
    refine HF.out.mono ?_
    rintro e w1 ⟨rfl, hB1⟩
    go_wp2
    go_ret
    exact ⟨rfl, hB1⟩
  have h300' : s.size ≤ 300 := by omega
  have hle := cntR_le s
  have HC := Lib.hid (fun W => count_any s W (by omega))
  have HLn := Lib.hid (fun W => line_any s (cntR s : Int) W (by omega))
  have HLa := Lib.hid (ln_all s)
  have HCut := Lib.hid (fun x y W => cut_any s x y W (by omega))
  have HJ := Lib.hid (fun i k => cuts_join s i k)
  have HNil := Lib.hid (cutS_nil s)
  obtain ⟨n, hn⟩ : ∃ n, n = cntR s := ⟨_, rfl⟩
  rw [← hn] at HC HLn HLa hle HJ
  obtain ⟨L, hL⟩ : ∃ L, L = lnAt s (n : Int) := ⟨_, rfl⟩
  rw [← hL] at HLn HLa
  obtain ⟨L1, L2⟩ := L
  clear hn hL h300
  have hi1 := Int.emod_nonneg a (show ((n : Int) + 1) ≠ 0 by omega)
  have hi2 := Int.emod_lt_of_pos a (show (0 : Int) < (n : Int) + 1 by omega)
  obtain ⟨i, hi⟩ : ∃ i : Nat, a % ((n : Int) + 1) = (i : Int) := ⟨(a % ((n : Int) + 1)).toNat, by omega⟩
  have HN1 := Lib.hid (fun W => number_any a ((n : Int) + 1) W (by omega) (by omega))
  rw [hi] at HN1 hi1 hi2
  have hd1 := Int.emod_nonneg b (show ((n : Int) - (i : Int) + 1) ≠ 0 by omega)
  have hd2 := Int.emod_lt_of_pos b (show (0 : Int) < (n : Int) - (i : Int) + 1 by omega)
  obtain ⟨d, hd⟩ : ∃ d : Nat, b % ((n : Int) - (i : Int) + 1) = (d : Int) := ⟨(b % ((n : Int) - (i : Int) + 1)).toNat, by omega⟩
  have HN2 := Lib.hid (fun W => number_any b ((n : Int) - (i : Int) + 1) W (by omega) (by omega))
  rw [hd] at HN2 hd1 hd2
  have HX1 := Lib.hid (fun W => HCut.out 0 i W)
  have HX2 := Lib.hid (fun W => HCut.out i (i + d) W)
  have HX3 := Lib.hid (fun W => HCut.out (i + d) n W)
  have HX4 := Lib.hid (fun W => HCut.out (i + d) i W)
  have HJ2 := Lib.hid (HJ.out i (i + d) (by omega))
  rw [HNil.out _ _ (by omega)] at HX4
  have ez : ((0 : Nat) : Int) = 0 := rfl
  have ek : ((i + d : Nat) : Int) = (i : Int) + (d : Int) := by omega
  rw [ez] at HX1
  rw [ek] at HX2 HX3 HX4
  obtain ⟨X, hX⟩ : ∃ X, X = cutS s 0 i := ⟨_, rfl⟩
  obtain ⟨Y, hY⟩ : ∃ Y, Y = cutS s i (i + d) := ⟨_, rfl⟩
  obtain ⟨Z, hZ⟩ : ∃ Z, Z = cutS s (i + d) n := ⟨_, rfl⟩
  have zX : X.size ≤ 300 := by have := cutS_size s 0 i; rw [← hX] at this; omega
  have zY : Y.size ≤ 300 := by have := cutS_size s i (i + d); rw [← hY] at this; omega
  have zZ : Z.size ≤ 300 := by have := cutS_size s (i + d) n; rw [← hZ] at this; omega
  rw [← hX] at HX1 HJ2
  rw [← hY] at HX2 HJ2
  rw [← hZ] at HX3 HJ2
  clear hX hY hZ hi hd HJ HNil HCut ez ek
  go_enter Try.func5, Try.ntmps5
  go_wp2_with fail
  refine HF.out.mono ?_
  rintro e w1 ⟨rfl, hB1⟩
  go_wp2_with fail
  refine (HC.out _).mono ?_
  rintro e w2 ⟨rfl, hB2⟩
  go_wp2_with fail
  refine (HN1.out _).mono ?_
  rintro e w3 ⟨rfl, rfl⟩
  go_wp2_with fail
  refine (HN2.out _).mono ?_
  rintro e w3 ⟨rfl, rfl⟩
  go_wp2_with fail
  refine (HX1.out _).mono ?_
  rintro e w3 ⟨rfl, hB3⟩
  go_wp2_with fail
  refine (HX2.out _).mono ?_
  rintro e w4 ⟨rfl, hB4⟩
  go_wp2_with fail
  refine (HX3.out _).mono ?_
  rintro e w5 ⟨rfl, hB5⟩
  have hBa : Below w.heap.size w w5 := hB1.trans ((hB2.trans ((hB3.trans ((hB4.trans (hB5.mono hB4.size)).mono hB3.size)).mono hB2.size)).mono hB1.size)
  have HBa := Lib.hid hBa
  clear hB1 hB2 hB3 hB4 hB5 hBa HF HC HN1 HN2 HX1 HX2 HX3
  go_wp2
  go_loop [14, 15] (fun x j => ∃ k : Nat, k ≤ s.size ∧ x = .int .i64 (((s.data.toList.take k).count 10 + 1 : Nat) : Int) ∧ j = .int .i64 (k : Int)) (fun _ j => s.size - (intOf j).toNat)
  case atStart => exact ⟨0, by omega, rfl, rfl⟩
  case round =>
    obtain ⟨k, hk, rfl, rfl⟩ := hrel
    by_cases hp : k < s.size
    · have hc0 := count_take (l := s.data.toList) (j := k) (by simpa using hp)
      obtain ⟨c, hc⟩ : ∃ c, s[k] = c := ⟨_, rfl⟩
      have hcs : s.data.toList[k]'(by simpa using hp) = c := hc
      rw [hcs] at hc0
      have hcle : (s.data.toList.take k).count 10 ≤ 300 := by
        have := List.count_le_length (a := (10 : UInt8)) (l := s.data.toList.take k)
        simp at this
        omega
      obtain ⟨m, hm⟩ : ∃ m, m = (s.data.toList.take k).count 10 := ⟨_, rfl⟩
      rw [← hm] at hc0 hcle ⊢
      have HC0 := Lib.hid hc0
      clear hcs hc0 hm
      by_cases h10 : c = 10
      · subst h10
        go_wp2
        go_round
        case rel => exact ⟨k + 1, by omega, by rw [HC0.out]; go_num, by go_num⟩
        case measure => simp [intOf]; omega
      · have h10' : ((c.toNat : Int) == 10) = false := beq_eq_false_iff_ne.2 (fun h => h10 (UInt8.toNat_inj.1 (by show c.toNat = 10; omega)))
        have HNe := Lib.hid h10
        clear h10
        go_wp2
        go_round
        case rel => exact ⟨k + 1, by omega, by rw [HC0.out, if_neg HNe.out], by go_num⟩
        case measure => simp [intOf]; omega
    · obtain rfl : k = s.size := by omega
      have e : (s.data.toList.take s.size).count 10 + 1 = L1 := by rw [List.take_of_length_le (by simp)]; exact HLa.out.symm
      rw [e]
      clear e hp hk HLa
      go_wp2_with fail
      refine (HLn.out _).mono ?_
      rintro e w6 ⟨rfl, hB6⟩
      have hJ2 := HJ2.out
      go_wp2_with fail
      refine (HX4.out _).mono ?_
      rintro e w7 ⟨rfl, hB7⟩
      go_wp2
      go_ret
      exact ⟨rfl, HBa.out.trans ((hB6.trans (hB7.mono hB6.size)).mono HBa.out.size)⟩
end Go.Proofs.Ytebijoipopiohaa
