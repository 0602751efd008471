/-
  The document's own runes: the walks of cont and one. Conditions: each theorem's own premises.
-/
import Derived.Test.YtacmibkcnmaagaaDoorQTxF
namespace Go.Proofs.YtacmibkcnmaagaaDoor
open Go.Shelf Go.RowKit Go.Lib

/-- The byte at a place. -/
def byN (l : List UInt8) (k : Nat) : Nat := (l[k]?.getD 0).toNat
theorem byN_lt (l : List UInt8) (k : Nat) : byN l k < 256 := UInt8.toNat_lt _
theorem byN_drop (l : List UInt8) (i k : Nat) : byN (l.drop i) k = byN l (i + k) := by simp [byN]
theorem byN_get (s : ByteArray) (k : Nat) (h : k < s.size) : s[k].toNat = byN s.data.toList k := by
  have : s.data.toList[k]? = some s[k] := by rw [List.getElem?_eq_getElem (by simpa using h)]; rfl
  simp [byN, this]
theorem dec_byN (l : List UInt8) : dec l = decodeN l.length (byN l 0) (byN l 1) (byN l 2) (byN l 3) := rfl
/-- Does a byte there go on? -/
def cont (s : ByteArray) (k : Nat) : Bool := decide (k < s.size ∧ byN s.data.toList k / 64 = 2)
theorem cont_true {s : ByteArray} {k : Nat} (h : cont s k = true) : k < s.size ∧ byN s.data.toList k / 64 = 2 := of_decide_eq_true h
theorem cont_false {s : ByteArray} {k : Nat} (h : cont s k = false) : ¬ (k < s.size ∧ byN s.data.toList k / 64 = 2) := of_decide_eq_false h

set_option maxRecDepth 100000 in
theorem and192 (n : Nat) (h : n < 256) : (bits .and .u8 (n : Int) 192 == 128) = decide (n / 64 = 2) := by
  have : ∀ m : Fin 256, (bits .and .u8 ((m : Nat) : Int) 192 == 128) = decide ((m : Nat) / 64 = 2) := by decide +kernel
  exact this ⟨n, h⟩
theorem and_i32 (i n m : Nat) (hm : n % 2 ^ i = m) (hi : i ≤ 31) (hn : n < 2147483648) : bits .and .i32 (n : Int) (2 ^ i - 1) = (m : Int) := by
  rw [bits_mask .i32 31 (by decide) wraps_i32 i hi (n : Int) (by omega) (by omega), ← hm]
  simp

set_option maxRecDepth 100000 in
set_option maxHeartbeats 400000 in
theorem cont_any (s : ByteArray) (k : Nat) (w : World) : Calls Tryd.prog 120 #[.string s, .int .i64 (k : Int)] w (RetKb w (cont s k)) := by
  by_cases h : k < s.size
  · have hb := byN_get s k h
    have ha := and192 _ (byN_lt s.data.toList k)
    have HC : Hid (cont s k = decide (byN s.data.toList k / 64 = 2)) := Lib.hid (by unfold cont; simp [h])
    obtain ⟨c, hc⟩ : ∃ c, s[k] = c := ⟨_, rfl⟩
    rw [hc] at hb
    rw [← hb] at ha HC
    clear hb
    cases hd : decide (c.toNat / 64 = 2)
    all_goals
      rw [hd] at ha HC
      clear hd
      go_enter Tryd.func120, Tryd.ntmps120
      go_wp2
      go_ret
      exact ⟨by rw [HC.out]; first | rfl | exact ret_bool (by simpa using ha), rfl⟩
  · have HC : Hid (cont s k = false) := Lib.hid (by unfold cont; simp [h])
    go_enter Tryd.func120, Tryd.ntmps120
    go_wp2
    go_ret
    exact ⟨by rw [HC.out]; rfl, rfl⟩

/-- A piece as a value. -/
def pieV (i : Nat) (d : Nat × Nat) : Value := .agg #[.int .i32 (d.1 : Int), .int .i64 (i : Int), .int .i64 ((i + d.2 : Nat) : Int), .bool (decide (d = (65533, 1)))]
def RetPie (w : World) (i : Nat) (d : Nat × Nat) (e : Ending) (w' : World) : Prop := e = .returned (pieV i d) ∧ Below w.heap.size w w'
theorem pie_good (i r n : Nat) (h : n ≠ 1 ∨ r < 65533) : pieV i (r, n) = .agg #[.int .i32 (r : Int), .int .i64 (i : Int), .int .i64 ((i : Int) + (n : Int)), .bool false] := by
  unfold pieV
  rw [decide_eq_false (by intro e; injection e; omega), Int.natCast_add]
theorem pie_bad (i : Nat) : pieV i (65533, 1) = .agg #[.int .i32 65533, .int .i64 (i : Int), .int .i64 ((i : Int) + 1), .bool true] := by
  unfold pieV
  rw [decide_eq_true rfl]
  rfl
set_option maxRecDepth 100000 in
set_option maxHeartbeats 2000000 in
theorem one_ascii (s : ByteArray) (i : Nat) (w : World) (hi : i < s.size) (hs : s.size ≤ 1099511627776) (h0 : byN s.data.toList i < 128)  : Calls Tryd.prog 89 #[.string s, .int .i64 (i : Int)] w (RetPie w i (byN s.data.toList i, 1)) := by
  have hb := byN_get s i hi
  have hl := byN_lt s.data.toList i
  obtain ⟨c, hc⟩ : ∃ c, s[i] = c := ⟨_, rfl⟩
  rw [hc] at hb
  rw [← hb] at hl h0
  rw [← hb]
  have HV := Lib.hid (pie_good i c.toNat 1 (by omega))
  clear hb
  go_enter Tryd.func89, Tryd.ntmps89
  go_wp2
  exact bodyPost_ret (v := pieV i (c.toNat, 1)) (by rw [HV.out]; simp [results, Tryd.results89, go_sem]) rfl ⟨rfl, (Below.refl _ _).alloc (Nat.le_refl _) _⟩
set_option maxRecDepth 100000 in
set_option maxHeartbeats 2000000 in
theorem one_two (s : ByteArray) (i : Nat) (w : World) (hi : i < s.size) (hs : s.size ≤ 1099511627776) (h0 : 194 ≤ byN s.data.toList i) (h1 : byN s.data.toList i ≤ 223) (hc1 : cont s (i + 1) = true) : Calls Tryd.prog 89 #[.string s, .int .i64 (i : Int)] w (RetPie w i (byN s.data.toList i % 32 * 64 + byN s.data.toList (i + 1) % 64, 2)) := by
  have hb := byN_get s i hi
  have HC1 := Lib.hid (fun W => cont_any s (i + 1) W)
  rw [hc1] at HC1
  have hi1 : i + 1 < s.size := (cont_true hc1).1
  have hb1 := byN_get s (i + 1) hi1
  have hl1 := byN_lt s.data.toList (i + 1)
  have ht1 : ((i : Int) + 1).toNat = i + 1 := by omega
  have hI1 : (i : Int) + 1 < (s.size : Int) := by omega
  have hJ1 : 0 ≤ (i : Int) + 1 := by omega
  have hl := byN_lt s.data.toList i
  obtain ⟨c, hc⟩ : ∃ c, s[i] = c := ⟨_, rfl⟩
  rw [hc] at hb
  obtain ⟨c1, hd1⟩ : ∃ c, s[i + 1] = c := ⟨_, rfl⟩
  rw [hd1] at hb1
  rw [← hb] at hl h0 h1
  rw [← hb1] at hl1
  rw [← hb, ← hb1]
  obtain ⟨x, hx⟩ : ∃ x, x = c.toNat % 32 := ⟨_, rfl⟩
  have e0 : bits .and .i32 (c.toNat : Int) 31 = (x : Int) := and_i32 5 _ _ (by rw [hx]) (by decide) (by omega)
  have hxl : x < 32 := by omega
  obtain ⟨y1, hy1⟩ : ∃ y, y = c1.toNat % 64 := ⟨_, rfl⟩
  have e1 : bits .and .i32 (c1.toNat : Int) 63 = (y1 : Int) := and_i32 6 _ _ (by rw [hy1]) (by decide) (by omega)
  have hyl1 : y1 < 64 := by omega
  rw [← hx, ← hy1] at ⊢
  obtain ⟨r, hr⟩ : ∃ r, r = x * 64 + y1 := ⟨_, rfl⟩
  have e5 : bits .or .i32 ((x : Int) * 64) (y1 : Int) = (r : Int) := by rw [i32_or6 _ _ (by omega) (by omega) (by omega) (by omega) (by omega), hr]; simp
  rw [← hr] at ⊢
  have hrl : r < 2097152 := by omega
  clear hr hx hy1
  have HV := Lib.hid (pie_good i r 2 (by omega))
  clear hb hc1 hb1
  go_enter Tryd.func89, Tryd.ntmps89
  go_wp2_with fail
  refine (HC1.out _).mono ?_
  rintro e w2 ⟨rfl, rfl⟩
  go_wp2
  exact bodyPost_ret (v := pieV i (r, 2)) (by rw [HV.out]; simp [results, Tryd.results89, go_sem]) rfl ⟨rfl, (Below.refl _ _).alloc (Nat.le_refl _) _⟩
set_option maxRecDepth 100000 in
set_option maxHeartbeats 2000000 in
theorem one_b1 (s : ByteArray) (i : Nat) (w : World) (hi : i < s.size) (hs : s.size ≤ 1099511627776) (h0 : 128 ≤ byN s.data.toList i) (h1 : byN s.data.toList i < 194)  : Calls Tryd.prog 89 #[.string s, .int .i64 (i : Int)] w (RetPie w i (65533, 1)) := by
  have hb := byN_get s i hi
  have hl := byN_lt s.data.toList i
  obtain ⟨c, hc⟩ : ∃ c, s[i] = c := ⟨_, rfl⟩
  rw [hc] at hb
  rw [← hb] at hl h0 h1
  have HV := Lib.hid (pie_bad i)
  clear hb
  go_enter Tryd.func89, Tryd.ntmps89
  go_wp2
  exact bodyPost_ret (v := pieV i (65533, 1)) (by rw [HV.out]; simp [results, Tryd.results89, go_sem]) rfl ⟨rfl, (Below.refl _ _).alloc (Nat.le_refl _) _⟩
set_option maxRecDepth 100000 in
set_option maxHeartbeats 2000000 in
theorem one_b2 (s : ByteArray) (i : Nat) (w : World) (hi : i < s.size) (hs : s.size ≤ 1099511627776) (h0 : 194 ≤ byN s.data.toList i) (h1 : byN s.data.toList i ≤ 223) (hc1 : cont s (i + 1) = false) : Calls Tryd.prog 89 #[.string s, .int .i64 (i : Int)] w (RetPie w i (65533, 1)) := by
  have hb := byN_get s i hi
  have HC1 := Lib.hid (fun W => cont_any s (i + 1) W)
  rw [hc1] at HC1
  have hl := byN_lt s.data.toList i
  obtain ⟨c, hc⟩ : ∃ c, s[i] = c := ⟨_, rfl⟩
  rw [hc] at hb
  rw [← hb] at hl h0 h1
  have HV := Lib.hid (pie_bad i)
  clear hb hc1
  go_enter Tryd.func89, Tryd.ntmps89
  go_wp2_with fail
  refine (HC1.out _).mono ?_
  rintro e w2 ⟨rfl, rfl⟩
  go_wp2
  exact bodyPost_ret (v := pieV i (65533, 1)) (by rw [HV.out]; simp [results, Tryd.results89, go_sem]) rfl ⟨rfl, (Below.refl _ _).alloc (Nat.le_refl _) _⟩
set_option maxRecDepth 100000 in
set_option maxHeartbeats 2000000 in
theorem one_b3 (s : ByteArray) (i : Nat) (w : World) (hi : i < s.size) (hs : s.size ≤ 1099511627776) (h0 : 224 ≤ byN s.data.toList i) (h1 : byN s.data.toList i ≤ 239) (hc1 : cont s (i + 1) = false) : Calls Tryd.prog 89 #[.string s, .int .i64 (i : Int)] w (RetPie w i (65533, 1)) := by
  have hb := byN_get s i hi
  have HC1 := Lib.hid (fun W => cont_any s (i + 1) W)
  rw [hc1] at HC1
  have hl := byN_lt s.data.toList i
  obtain ⟨c, hc⟩ : ∃ c, s[i] = c := ⟨_, rfl⟩
  rw [hc] at hb
  rw [← hb] at hl h0 h1
  have HV := Lib.hid (pie_bad i)
  clear hb hc1
  go_enter Tryd.func89, Tryd.ntmps89
  go_wp2_with fail
  refine (HC1.out _).mono ?_
  rintro e w2 ⟨rfl, rfl⟩
  go_wp2
  exact bodyPost_ret (v := pieV i (65533, 1)) (by rw [HV.out]; simp [results, Tryd.results89, go_sem]) rfl ⟨rfl, (Below.refl _ _).alloc (Nat.le_refl _) _⟩
set_option maxRecDepth 100000 in
set_option maxHeartbeats 2000000 in
theorem one_b4 (s : ByteArray) (i : Nat) (w : World) (hi : i < s.size) (hs : s.size ≤ 1099511627776) (h0 : 224 ≤ byN s.data.toList i) (h1 : byN s.data.toList i ≤ 239) (hc1 : cont s (i + 1) = true) (hc2 : cont s (i + 2) = false) : Calls Tryd.prog 89 #[.string s, .int .i64 (i : Int)] w (RetPie w i (65533, 1)) := by
  have hb := byN_get s i hi
  have HC1 := Lib.hid (fun W => cont_any s (i + 1) W)
  rw [hc1] at HC1
  have HC2 := Lib.hid (fun W => cont_any s (i + 2) W)
  rw [hc2] at HC2
  have hl := byN_lt s.data.toList i
  obtain ⟨c, hc⟩ : ∃ c, s[i] = c := ⟨_, rfl⟩
  rw [hc] at hb
  rw [← hb] at hl h0 h1
  have HV := Lib.hid (pie_bad i)
  clear hb hc1 hc2
  go_enter Tryd.func89, Tryd.ntmps89
  go_wp2_with fail
  refine (HC1.out _).mono ?_
  rintro e w2 ⟨rfl, rfl⟩
  go_wp2_with fail
  refine (HC2.out _).mono ?_
  rintro e w2 ⟨rfl, rfl⟩
  go_wp2
  exact bodyPost_ret (v := pieV i (65533, 1)) (by rw [HV.out]; simp [results, Tryd.results89, go_sem]) rfl ⟨rfl, (Below.refl _ _).alloc (Nat.le_refl _) _⟩
set_option maxRecDepth 100000 in
set_option maxHeartbeats 2000000 in
theorem one_b7 (s : ByteArray) (i : Nat) (w : World) (hi : i < s.size) (hs : s.size ≤ 1099511627776) (h0 : 240 ≤ byN s.data.toList i) (h1 : byN s.data.toList i ≤ 244) (hc1 : cont s (i + 1) = false) : Calls Tryd.prog 89 #[.string s, .int .i64 (i : Int)] w (RetPie w i (65533, 1)) := by
  have hb := byN_get s i hi
  have HC1 := Lib.hid (fun W => cont_any s (i + 1) W)
  rw [hc1] at HC1
  have hl := byN_lt s.data.toList i
  obtain ⟨c, hc⟩ : ∃ c, s[i] = c := ⟨_, rfl⟩
  rw [hc] at hb
  rw [← hb] at hl h0 h1
  have HV := Lib.hid (pie_bad i)
  clear hb hc1
  go_enter Tryd.func89, Tryd.ntmps89
  go_wp2_with fail
  refine (HC1.out _).mono ?_
  rintro e w2 ⟨rfl, rfl⟩
  go_wp2
  exact bodyPost_ret (v := pieV i (65533, 1)) (by rw [HV.out]; simp [results, Tryd.results89, go_sem]) rfl ⟨rfl, (Below.refl _ _).alloc (Nat.le_refl _) _⟩
set_option maxRecDepth 100000 in
set_option maxHeartbeats 2000000 in
theorem one_b8 (s : ByteArray) (i : Nat) (w : World) (hi : i < s.size) (hs : s.size ≤ 1099511627776) (h0 : 240 ≤ byN s.data.toList i) (h1 : byN s.data.toList i ≤ 244) (hc1 : cont s (i + 1) = true) (hc2 : cont s (i + 2) = false) : Calls Tryd.prog 89 #[.string s, .int .i64 (i : Int)] w (RetPie w i (65533, 1)) := by
  have hb := byN_get s i hi
  have HC1 := Lib.hid (fun W => cont_any s (i + 1) W)
  rw [hc1] at HC1
  have HC2 := Lib.hid (fun W => cont_any s (i + 2) W)
  rw [hc2] at HC2
  have hl := byN_lt s.data.toList i
  obtain ⟨c, hc⟩ : ∃ c, s[i] = c := ⟨_, rfl⟩
  rw [hc] at hb
  rw [← hb] at hl h0 h1
  have HV := Lib.hid (pie_bad i)
  clear hb hc1 hc2
  go_enter Tryd.func89, Tryd.ntmps89
  go_wp2_with fail
  refine (HC1.out _).mono ?_
  rintro e w2 ⟨rfl, rfl⟩
  go_wp2_with fail
  refine (HC2.out _).mono ?_
  rintro e w2 ⟨rfl, rfl⟩
  go_wp2
  exact bodyPost_ret (v := pieV i (65533, 1)) (by rw [HV.out]; simp [results, Tryd.results89, go_sem]) rfl ⟨rfl, (Below.refl _ _).alloc (Nat.le_refl _) _⟩
set_option maxRecDepth 100000 in
set_option maxHeartbeats 2000000 in
theorem one_b9 (s : ByteArray) (i : Nat) (w : World) (hi : i < s.size) (hs : s.size ≤ 1099511627776) (h0 : 240 ≤ byN s.data.toList i) (h1 : byN s.data.toList i ≤ 244) (hc1 : cont s (i + 1) = true) (hc2 : cont s (i + 2) = true) (hc3 : cont s (i + 3) = false) : Calls Tryd.prog 89 #[.string s, .int .i64 (i : Int)] w (RetPie w i (65533, 1)) := by
  have hb := byN_get s i hi
  have HC1 := Lib.hid (fun W => cont_any s (i + 1) W)
  rw [hc1] at HC1
  have HC2 := Lib.hid (fun W => cont_any s (i + 2) W)
  rw [hc2] at HC2
  have HC3 := Lib.hid (fun W => cont_any s (i + 3) W)
  rw [hc3] at HC3
  have hl := byN_lt s.data.toList i
  obtain ⟨c, hc⟩ : ∃ c, s[i] = c := ⟨_, rfl⟩
  rw [hc] at hb
  rw [← hb] at hl h0 h1
  have HV := Lib.hid (pie_bad i)
  clear hb hc1 hc2 hc3
  go_enter Tryd.func89, Tryd.ntmps89
  go_wp2_with fail
  refine (HC1.out _).mono ?_
  rintro e w2 ⟨rfl, rfl⟩
  go_wp2_with fail
  refine (HC2.out _).mono ?_
  rintro e w2 ⟨rfl, rfl⟩
  go_wp2_with fail
  refine (HC3.out _).mono ?_
  rintro e w2 ⟨rfl, rfl⟩
  go_wp2
  exact bodyPost_ret (v := pieV i (65533, 1)) (by rw [HV.out]; simp [results, Tryd.results89, go_sem]) rfl ⟨rfl, (Below.refl _ _).alloc (Nat.le_refl _) _⟩
set_option maxRecDepth 100000 in
set_option maxHeartbeats 2000000 in
theorem one_b12 (s : ByteArray) (i : Nat) (w : World) (hi : i < s.size) (hs : s.size ≤ 1099511627776) (h0 : 245 ≤ byN s.data.toList i)  : Calls Tryd.prog 89 #[.string s, .int .i64 (i : Int)] w (RetPie w i (65533, 1)) := by
  have hb := byN_get s i hi
  have hl := byN_lt s.data.toList i
  obtain ⟨c, hc⟩ : ∃ c, s[i] = c := ⟨_, rfl⟩
  rw [hc] at hb
  rw [← hb] at hl h0
  have HV := Lib.hid (pie_bad i)
  clear hb
  go_enter Tryd.func89, Tryd.ntmps89
  go_wp2
  exact bodyPost_ret (v := pieV i (65533, 1)) (by rw [HV.out]; simp [results, Tryd.results89, go_sem]) rfl ⟨rfl, (Below.refl _ _).alloc (Nat.le_refl _) _⟩
set_option maxRecDepth 100000 in
set_option maxHeartbeats 2000000 in
theorem one_b5 (s : ByteArray) (i : Nat) (w : World) (hi : i < s.size) (hs : s.size ≤ 1099511627776) (h0 : 224 ≤ byN s.data.toList i) (h1 : byN s.data.toList i ≤ 239) (h2 : byN s.data.toList i % 16 * 4096 + byN s.data.toList (i + 1) % 64 * 64 + byN s.data.toList (i + 2) % 64 < 2048) (hc1 : cont s (i + 1) = true) (hc2 : cont s (i + 2) = true) : Calls Tryd.prog 89 #[.string s, .int .i64 (i : Int)] w (RetPie w i (65533, 1)) := by
  have hb := byN_get s i hi
  have HC1 := Lib.hid (fun W => cont_any s (i + 1) W)
  rw [hc1] at HC1
  have HC2 := Lib.hid (fun W => cont_any s (i + 2) W)
  rw [hc2] at HC2
  have hi1 : i + 1 < s.size := (cont_true hc1).1
  have hb1 := byN_get s (i + 1) hi1
  have hl1 := byN_lt s.data.toList (i + 1)
  have ht1 : ((i : Int) + 1).toNat = i + 1 := by omega
  have hI1 : (i : Int) + 1 < (s.size : Int) := by omega
  have hJ1 : 0 ≤ (i : Int) + 1 := by omega
  have hi2 : i + 2 < s.size := (cont_true hc2).1
  have hb2 := byN_get s (i + 2) hi2
  have hl2 := byN_lt s.data.toList (i + 2)
  have ht2 : ((i : Int) + 2).toNat = i + 2 := by omega
  have hI2 : (i : Int) + 2 < (s.size : Int) := by omega
  have hJ2 : 0 ≤ (i : Int) + 2 := by omega
  have hl := byN_lt s.data.toList i
  obtain ⟨c, hc⟩ : ∃ c, s[i] = c := ⟨_, rfl⟩
  rw [hc] at hb
  obtain ⟨c1, hd1⟩ : ∃ c, s[i + 1] = c := ⟨_, rfl⟩
  rw [hd1] at hb1
  obtain ⟨c2, hd2⟩ : ∃ c, s[i + 2] = c := ⟨_, rfl⟩
  rw [hd2] at hb2
  rw [← hb] at hl h0 h1 h2
  rw [← hb1] at hl1 h2
  rw [← hb2] at hl2 h2
  obtain ⟨x, hx⟩ : ∃ x, x = c.toNat % 16 := ⟨_, rfl⟩
  have e0 : bits .and .i32 (c.toNat : Int) 15 = (x : Int) := and_i32 4 _ _ (by rw [hx]) (by decide) (by omega)
  have hxl : x < 16 := by omega
  obtain ⟨y1, hy1⟩ : ∃ y, y = c1.toNat % 64 := ⟨_, rfl⟩
  have e1 : bits .and .i32 (c1.toNat : Int) 63 = (y1 : Int) := and_i32 6 _ _ (by rw [hy1]) (by decide) (by omega)
  have hyl1 : y1 < 64 := by omega
  obtain ⟨y2, hy2⟩ : ∃ y, y = c2.toNat % 64 := ⟨_, rfl⟩
  have e2 : bits .and .i32 (c2.toNat : Int) 63 = (y2 : Int) := and_i32 6 _ _ (by rw [hy2]) (by decide) (by omega)
  have hyl2 : y2 < 64 := by omega
  rw [← hx, ← hy1, ← hy2] at h2
  obtain ⟨m, hm⟩ : ∃ m, m = x * 4096 + y1 * 64 := ⟨_, rfl⟩
  have e5 : bits .or .i32 ((x : Int) * 4096) ((y1 : Int) * 64) = (m : Int) := by rw [i32_or12 _ _ (by omega) (by omega) (by omega) (by omega) (by omega), hm]; simp
  obtain ⟨r, hr⟩ : ∃ r, r = x * 4096 + y1 * 64 + y2 := ⟨_, rfl⟩
  have e6 : bits .or .i32 (m : Int) (y2 : Int) = (r : Int) := by rw [i32_or6 _ _ (by omega) (by omega) (by omega) (by omega) (by omega), hr, hm]; simp
  rw [← hr] at h2
  have hrl : r < 2097152 := by omega
  clear hr hx hy1 hy2 hm
  have HV := Lib.hid (pie_bad i)
  clear hb hc1 hc2 hb1 hb2
  go_enter Tryd.func89, Tryd.ntmps89
  go_wp2_with fail
  refine (HC1.out _).mono ?_
  rintro e w2 ⟨rfl, rfl⟩
  go_wp2_with fail
  refine (HC2.out _).mono ?_
  rintro e w2 ⟨rfl, rfl⟩
  go_wp2
  go_region
  all_goals go_wp2
  all_goals exact bodyPost_ret (v := pieV i (65533, 1)) (by rw [HV.out]; simp [results, Tryd.results89, go_sem]) rfl ⟨rfl, ((Below.refl _ _).alloc (Nat.le_refl _) _).drew⟩
set_option maxRecDepth 100000 in
set_option maxHeartbeats 2000000 in
theorem one_b6 (s : ByteArray) (i : Nat) (w : World) (hi : i < s.size) (hs : s.size ≤ 1099511627776) (h0 : 224 ≤ byN s.data.toList i) (h1 : byN s.data.toList i ≤ 239) (h2 : 55296 ≤ byN s.data.toList i % 16 * 4096 + byN s.data.toList (i + 1) % 64 * 64 + byN s.data.toList (i + 2) % 64) (h3 : byN s.data.toList i % 16 * 4096 + byN s.data.toList (i + 1) % 64 * 64 + byN s.data.toList (i + 2) % 64 ≤ 57343) (hc1 : cont s (i + 1) = true) (hc2 : cont s (i + 2) = true) : Calls Tryd.prog 89 #[.string s, .int .i64 (i : Int)] w (RetPie w i (65533, 1)) := by
  have hb := byN_get s i hi
  have HC1 := Lib.hid (fun W => cont_any s (i + 1) W)
  rw [hc1] at HC1
  have HC2 := Lib.hid (fun W => cont_any s (i + 2) W)
  rw [hc2] at HC2
  have hi1 : i + 1 < s.size := (cont_true hc1).1
  have hb1 := byN_get s (i + 1) hi1
  have hl1 := byN_lt s.data.toList (i + 1)
  have ht1 : ((i : Int) + 1).toNat = i + 1 := by omega
  have hI1 : (i : Int) + 1 < (s.size : Int) := by omega
  have hJ1 : 0 ≤ (i : Int) + 1 := by omega
  have hi2 : i + 2 < s.size := (cont_true hc2).1
  have hb2 := byN_get s (i + 2) hi2
  have hl2 := byN_lt s.data.toList (i + 2)
  have ht2 : ((i : Int) + 2).toNat = i + 2 := by omega
  have hI2 : (i : Int) + 2 < (s.size : Int) := by omega
  have hJ2 : 0 ≤ (i : Int) + 2 := by omega
  have hl := byN_lt s.data.toList i
  obtain ⟨c, hc⟩ : ∃ c, s[i] = c := ⟨_, rfl⟩
  rw [hc] at hb
  obtain ⟨c1, hd1⟩ : ∃ c, s[i + 1] = c := ⟨_, rfl⟩
  rw [hd1] at hb1
  obtain ⟨c2, hd2⟩ : ∃ c, s[i + 2] = c := ⟨_, rfl⟩
  rw [hd2] at hb2
  rw [← hb] at hl h0 h1 h2 h3
  rw [← hb1] at hl1 h2 h3
  rw [← hb2] at hl2 h2 h3
  obtain ⟨x, hx⟩ : ∃ x, x = c.toNat % 16 := ⟨_, rfl⟩
  have e0 : bits .and .i32 (c.toNat : Int) 15 = (x : Int) := and_i32 4 _ _ (by rw [hx]) (by decide) (by omega)
  have hxl : x < 16 := by omega
  obtain ⟨y1, hy1⟩ : ∃ y, y = c1.toNat % 64 := ⟨_, rfl⟩
  have e1 : bits .and .i32 (c1.toNat : Int) 63 = (y1 : Int) := and_i32 6 _ _ (by rw [hy1]) (by decide) (by omega)
  have hyl1 : y1 < 64 := by omega
  obtain ⟨y2, hy2⟩ : ∃ y, y = c2.toNat % 64 := ⟨_, rfl⟩
  have e2 : bits .and .i32 (c2.toNat : Int) 63 = (y2 : Int) := and_i32 6 _ _ (by rw [hy2]) (by decide) (by omega)
  have hyl2 : y2 < 64 := by omega
  rw [← hx, ← hy1, ← hy2] at h2 h3
  obtain ⟨m, hm⟩ : ∃ m, m = x * 4096 + y1 * 64 := ⟨_, rfl⟩
  have e5 : bits .or .i32 ((x : Int) * 4096) ((y1 : Int) * 64) = (m : Int) := by rw [i32_or12 _ _ (by omega) (by omega) (by omega) (by omega) (by omega), hm]; simp
  obtain ⟨r, hr⟩ : ∃ r, r = x * 4096 + y1 * 64 + y2 := ⟨_, rfl⟩
  have e6 : bits .or .i32 (m : Int) (y2 : Int) = (r : Int) := by rw [i32_or6 _ _ (by omega) (by omega) (by omega) (by omega) (by omega), hr, hm]; simp
  rw [← hr] at h2 h3
  have hrl : r < 2097152 := by omega
  clear hr hx hy1 hy2 hm
  have HV := Lib.hid (pie_bad i)
  clear hb hc1 hc2 hb1 hb2
  go_enter Tryd.func89, Tryd.ntmps89
  go_wp2_with fail
  refine (HC1.out _).mono ?_
  rintro e w2 ⟨rfl, rfl⟩
  go_wp2_with fail
  refine (HC2.out _).mono ?_
  rintro e w2 ⟨rfl, rfl⟩
  go_wp2
  go_region
  all_goals go_wp2
  all_goals exact bodyPost_ret (v := pieV i (65533, 1)) (by rw [HV.out]; simp [results, Tryd.results89, go_sem]) rfl ⟨rfl, ((Below.refl _ _).alloc (Nat.le_refl _) _).drew⟩
set_option maxRecDepth 100000 in
set_option maxHeartbeats 2000000 in
theorem one_three (s : ByteArray) (i : Nat) (w : World) (hi : i < s.size) (hs : s.size ≤ 1099511627776) (h0 : 224 ≤ byN s.data.toList i) (h1 : byN s.data.toList i ≤ 239) (h2 : 2048 ≤ byN s.data.toList i % 16 * 4096 + byN s.data.toList (i + 1) % 64 * 64 + byN s.data.toList (i + 2) % 64) (h3 : byN s.data.toList i % 16 * 4096 + byN s.data.toList (i + 1) % 64 * 64 + byN s.data.toList (i + 2) % 64 < 55296) (hc1 : cont s (i + 1) = true) (hc2 : cont s (i + 2) = true) : Calls Tryd.prog 89 #[.string s, .int .i64 (i : Int)] w (RetPie w i (byN s.data.toList i % 16 * 4096 + byN s.data.toList (i + 1) % 64 * 64 + byN s.data.toList (i + 2) % 64, 3)) := by
  have hb := byN_get s i hi
  have HC1 := Lib.hid (fun W => cont_any s (i + 1) W)
  rw [hc1] at HC1
  have HC2 := Lib.hid (fun W => cont_any s (i + 2) W)
  rw [hc2] at HC2
  have hi1 : i + 1 < s.size := (cont_true hc1).1
  have hb1 := byN_get s (i + 1) hi1
  have hl1 := byN_lt s.data.toList (i + 1)
  have ht1 : ((i : Int) + 1).toNat = i + 1 := by omega
  have hI1 : (i : Int) + 1 < (s.size : Int) := by omega
  have hJ1 : 0 ≤ (i : Int) + 1 := by omega
  have hi2 : i + 2 < s.size := (cont_true hc2).1
  have hb2 := byN_get s (i + 2) hi2
  have hl2 := byN_lt s.data.toList (i + 2)
  have ht2 : ((i : Int) + 2).toNat = i + 2 := by omega
  have hI2 : (i : Int) + 2 < (s.size : Int) := by omega
  have hJ2 : 0 ≤ (i : Int) + 2 := by omega
  have hl := byN_lt s.data.toList i
  obtain ⟨c, hc⟩ : ∃ c, s[i] = c := ⟨_, rfl⟩
  rw [hc] at hb
  obtain ⟨c1, hd1⟩ : ∃ c, s[i + 1] = c := ⟨_, rfl⟩
  rw [hd1] at hb1
  obtain ⟨c2, hd2⟩ : ∃ c, s[i + 2] = c := ⟨_, rfl⟩
  rw [hd2] at hb2
  rw [← hb] at hl h0 h1 h2 h3
  rw [← hb1] at hl1 h2 h3
  rw [← hb2] at hl2 h2 h3
  rw [← hb, ← hb1, ← hb2]
  obtain ⟨x, hx⟩ : ∃ x, x = c.toNat % 16 := ⟨_, rfl⟩
  have e0 : bits .and .i32 (c.toNat : Int) 15 = (x : Int) := and_i32 4 _ _ (by rw [hx]) (by decide) (by omega)
  have hxl : x < 16 := by omega
  obtain ⟨y1, hy1⟩ : ∃ y, y = c1.toNat % 64 := ⟨_, rfl⟩
  have e1 : bits .and .i32 (c1.toNat : Int) 63 = (y1 : Int) := and_i32 6 _ _ (by rw [hy1]) (by decide) (by omega)
  have hyl1 : y1 < 64 := by omega
  obtain ⟨y2, hy2⟩ : ∃ y, y = c2.toNat % 64 := ⟨_, rfl⟩
  have e2 : bits .and .i32 (c2.toNat : Int) 63 = (y2 : Int) := and_i32 6 _ _ (by rw [hy2]) (by decide) (by omega)
  have hyl2 : y2 < 64 := by omega
  rw [← hx, ← hy1, ← hy2] at h2 h3 ⊢
  obtain ⟨m, hm⟩ : ∃ m, m = x * 4096 + y1 * 64 := ⟨_, rfl⟩
  have e5 : bits .or .i32 ((x : Int) * 4096) ((y1 : Int) * 64) = (m : Int) := by rw [i32_or12 _ _ (by omega) (by omega) (by omega) (by omega) (by omega), hm]; simp
  obtain ⟨r, hr⟩ : ∃ r, r = x * 4096 + y1 * 64 + y2 := ⟨_, rfl⟩
  have e6 : bits .or .i32 (m : Int) (y2 : Int) = (r : Int) := by rw [i32_or6 _ _ (by omega) (by omega) (by omega) (by omega) (by omega), hr, hm]; simp
  rw [← hr] at h2 h3 ⊢
  have hrl : r < 2097152 := by omega
  clear hr hx hy1 hy2 hm
  have HV := Lib.hid (pie_good i r 3 (by omega))
  clear hb hc1 hc2 hb1 hb2
  go_enter Tryd.func89, Tryd.ntmps89
  go_wp2_with fail
  refine (HC1.out _).mono ?_
  rintro e w2 ⟨rfl, rfl⟩
  go_wp2_with fail
  refine (HC2.out _).mono ?_
  rintro e w2 ⟨rfl, rfl⟩
  go_wp2
  go_region
  all_goals go_wp2
  all_goals exact bodyPost_ret (v := pieV i (r, 3)) (by rw [HV.out]; simp [results, Tryd.results89, go_sem]) rfl ⟨rfl, ((Below.refl _ _).alloc (Nat.le_refl _) _).drew⟩
set_option maxRecDepth 100000 in
set_option maxHeartbeats 2000000 in
theorem one_three2 (s : ByteArray) (i : Nat) (w : World) (hi : i < s.size) (hs : s.size ≤ 1099511627776) (h0 : 224 ≤ byN s.data.toList i) (h1 : byN s.data.toList i ≤ 239) (h2 : 57343 < byN s.data.toList i % 16 * 4096 + byN s.data.toList (i + 1) % 64 * 64 + byN s.data.toList (i + 2) % 64) (hc1 : cont s (i + 1) = true) (hc2 : cont s (i + 2) = true) : Calls Tryd.prog 89 #[.string s, .int .i64 (i : Int)] w (RetPie w i (byN s.data.toList i % 16 * 4096 + byN s.data.toList (i + 1) % 64 * 64 + byN s.data.toList (i + 2) % 64, 3)) := by
  have hb := byN_get s i hi
  have HC1 := Lib.hid (fun W => cont_any s (i + 1) W)
  rw [hc1] at HC1
  have HC2 := Lib.hid (fun W => cont_any s (i + 2) W)
  rw [hc2] at HC2
  have hi1 : i + 1 < s.size := (cont_true hc1).1
  have hb1 := byN_get s (i + 1) hi1
  have hl1 := byN_lt s.data.toList (i + 1)
  have ht1 : ((i : Int) + 1).toNat = i + 1 := by omega
  have hI1 : (i : Int) + 1 < (s.size : Int) := by omega
  have hJ1 : 0 ≤ (i : Int) + 1 := by omega
  have hi2 : i + 2 < s.size := (cont_true hc2).1
  have hb2 := byN_get s (i + 2) hi2
  have hl2 := byN_lt s.data.toList (i + 2)
  have ht2 : ((i : Int) + 2).toNat = i + 2 := by omega
  have hI2 : (i : Int) + 2 < (s.size : Int) := by omega
  have hJ2 : 0 ≤ (i : Int) + 2 := by omega
  have hl := byN_lt s.data.toList i
  obtain ⟨c, hc⟩ : ∃ c, s[i] = c := ⟨_, rfl⟩
  rw [hc] at hb
  obtain ⟨c1, hd1⟩ : ∃ c, s[i + 1] = c := ⟨_, rfl⟩
  rw [hd1] at hb1
  obtain ⟨c2, hd2⟩ : ∃ c, s[i + 2] = c := ⟨_, rfl⟩
  rw [hd2] at hb2
  rw [← hb] at hl h0 h1 h2
  rw [← hb1] at hl1 h2
  rw [← hb2] at hl2 h2
  rw [← hb, ← hb1, ← hb2]
  obtain ⟨x, hx⟩ : ∃ x, x = c.toNat % 16 := ⟨_, rfl⟩
  have e0 : bits .and .i32 (c.toNat : Int) 15 = (x : Int) := and_i32 4 _ _ (by rw [hx]) (by decide) (by omega)
  have hxl : x < 16 := by omega
  obtain ⟨y1, hy1⟩ : ∃ y, y = c1.toNat % 64 := ⟨_, rfl⟩
  have e1 : bits .and .i32 (c1.toNat : Int) 63 = (y1 : Int) := and_i32 6 _ _ (by rw [hy1]) (by decide) (by omega)
  have hyl1 : y1 < 64 := by omega
  obtain ⟨y2, hy2⟩ : ∃ y, y = c2.toNat % 64 := ⟨_, rfl⟩
  have e2 : bits .and .i32 (c2.toNat : Int) 63 = (y2 : Int) := and_i32 6 _ _ (by rw [hy2]) (by decide) (by omega)
  have hyl2 : y2 < 64 := by omega
  rw [← hx, ← hy1, ← hy2] at h2 ⊢
  obtain ⟨m, hm⟩ : ∃ m, m = x * 4096 + y1 * 64 := ⟨_, rfl⟩
  have e5 : bits .or .i32 ((x : Int) * 4096) ((y1 : Int) * 64) = (m : Int) := by rw [i32_or12 _ _ (by omega) (by omega) (by omega) (by omega) (by omega), hm]; simp
  obtain ⟨r, hr⟩ : ∃ r, r = x * 4096 + y1 * 64 + y2 := ⟨_, rfl⟩
  have e6 : bits .or .i32 (m : Int) (y2 : Int) = (r : Int) := by rw [i32_or6 _ _ (by omega) (by omega) (by omega) (by omega) (by omega), hr, hm]; simp
  rw [← hr] at h2 ⊢
  have hrl : r < 2097152 := by omega
  clear hr hx hy1 hy2 hm
  have HV := Lib.hid (pie_good i r 3 (by omega))
  clear hb hc1 hc2 hb1 hb2
  go_enter Tryd.func89, Tryd.ntmps89
  go_wp2_with fail
  refine (HC1.out _).mono ?_
  rintro e w2 ⟨rfl, rfl⟩
  go_wp2_with fail
  refine (HC2.out _).mono ?_
  rintro e w2 ⟨rfl, rfl⟩
  go_wp2
  go_region
  all_goals go_wp2
  all_goals exact bodyPost_ret (v := pieV i (r, 3)) (by rw [HV.out]; simp [results, Tryd.results89, go_sem]) rfl ⟨rfl, ((Below.refl _ _).alloc (Nat.le_refl _) _).drew⟩
set_option maxRecDepth 100000 in
set_option maxHeartbeats 2000000 in
theorem one_b10 (s : ByteArray) (i : Nat) (w : World) (hi : i < s.size) (hs : s.size ≤ 1099511627776) (h0 : 240 ≤ byN s.data.toList i) (h1 : byN s.data.toList i ≤ 244) (h2 : byN s.data.toList i % 8 * 262144 + byN s.data.toList (i + 1) % 64 * 4096 + byN s.data.toList (i + 2) % 64 * 64 + byN s.data.toList (i + 3) % 64 < 65536) (hc1 : cont s (i + 1) = true) (hc2 : cont s (i + 2) = true) (hc3 : cont s (i + 3) = true) : Calls Tryd.prog 89 #[.string s, .int .i64 (i : Int)] w (RetPie w i (65533, 1)) := by
  have hb := byN_get s i hi
  have HC1 := Lib.hid (fun W => cont_any s (i + 1) W)
  rw [hc1] at HC1
  have HC2 := Lib.hid (fun W => cont_any s (i + 2) W)
  rw [hc2] at HC2
  have HC3 := Lib.hid (fun W => cont_any s (i + 3) W)
  rw [hc3] at HC3
  have hi1 : i + 1 < s.size := (cont_true hc1).1
  have hb1 := byN_get s (i + 1) hi1
  have hl1 := byN_lt s.data.toList (i + 1)
  have ht1 : ((i : Int) + 1).toNat = i + 1 := by omega
  have hI1 : (i : Int) + 1 < (s.size : Int) := by omega
  have hJ1 : 0 ≤ (i : Int) + 1 := by omega
  have hi2 : i + 2 < s.size := (cont_true hc2).1
  have hb2 := byN_get s (i + 2) hi2
  have hl2 := byN_lt s.data.toList (i + 2)
  have ht2 : ((i : Int) + 2).toNat = i + 2 := by omega
  have hI2 : (i : Int) + 2 < (s.size : Int) := by omega
  have hJ2 : 0 ≤ (i : Int) + 2 := by omega
  have hi3 : i + 3 < s.size := (cont_true hc3).1
  have hb3 := byN_get s (i + 3) hi3
  have hl3 := byN_lt s.data.toList (i + 3)
  have ht3 : ((i : Int) + 3).toNat = i + 3 := by omega
  have hI3 : (i : Int) + 3 < (s.size : Int) := by omega
  have hJ3 : 0 ≤ (i : Int) + 3 := by omega
  have hl := byN_lt s.data.toList i
  obtain ⟨c, hc⟩ : ∃ c, s[i] = c := ⟨_, rfl⟩
  rw [hc] at hb
  obtain ⟨c1, hd1⟩ : ∃ c, s[i + 1] = c := ⟨_, rfl⟩
  rw [hd1] at hb1
  obtain ⟨c2, hd2⟩ : ∃ c, s[i + 2] = c := ⟨_, rfl⟩
  rw [hd2] at hb2
  obtain ⟨c3, hd3⟩ : ∃ c, s[i + 3] = c := ⟨_, rfl⟩
  rw [hd3] at hb3
  rw [← hb] at hl h0 h1 h2
  rw [← hb1] at hl1 h2
  rw [← hb2] at hl2 h2
  rw [← hb3] at hl3 h2
  obtain ⟨x, hx⟩ : ∃ x, x = c.toNat % 8 := ⟨_, rfl⟩
  have e0 : bits .and .i32 (c.toNat : Int) 7 = (x : Int) := and_i32 3 _ _ (by rw [hx]) (by decide) (by omega)
  have hxl : x < 8 := by omega
  obtain ⟨y1, hy1⟩ : ∃ y, y = c1.toNat % 64 := ⟨_, rfl⟩
  have e1 : bits .and .i32 (c1.toNat : Int) 63 = (y1 : Int) := and_i32 6 _ _ (by rw [hy1]) (by decide) (by omega)
  have hyl1 : y1 < 64 := by omega
  obtain ⟨y2, hy2⟩ : ∃ y, y = c2.toNat % 64 := ⟨_, rfl⟩
  have e2 : bits .and .i32 (c2.toNat : Int) 63 = (y2 : Int) := and_i32 6 _ _ (by rw [hy2]) (by decide) (by omega)
  have hyl2 : y2 < 64 := by omega
  obtain ⟨y3, hy3⟩ : ∃ y, y = c3.toNat % 64 := ⟨_, rfl⟩
  have e3 : bits .and .i32 (c3.toNat : Int) 63 = (y3 : Int) := and_i32 6 _ _ (by rw [hy3]) (by decide) (by omega)
  have hyl3 : y3 < 64 := by omega
  rw [← hx, ← hy1, ← hy2, ← hy3] at h2
  obtain ⟨m, hm⟩ : ∃ m, m = x * 262144 + y1 * 4096 := ⟨_, rfl⟩
  have e5 : bits .or .i32 ((x : Int) * 262144) ((y1 : Int) * 4096) = (m : Int) := by rw [i32_or18 _ _ (by omega) (by omega) (by omega) (by omega) (by omega), hm]; simp
  obtain ⟨m2, hm2⟩ : ∃ m2, m2 = m + y2 * 64 := ⟨_, rfl⟩
  have e6 : bits .or .i32 (m : Int) ((y2 : Int) * 64) = (m2 : Int) := by rw [i32_or12 _ _ (by omega) (by omega) (by omega) (by omega) (by omega), hm2]; simp
  obtain ⟨r, hr⟩ : ∃ r, r = x * 262144 + y1 * 4096 + y2 * 64 + y3 := ⟨_, rfl⟩
  have e7 : bits .or .i32 (m2 : Int) (y3 : Int) = (r : Int) := by rw [i32_or6 _ _ (by omega) (by omega) (by omega) (by omega) (by omega), hr, hm2, hm]; simp
  rw [← hr] at h2
  have hrl : r < 2097152 := by omega
  clear hr hx hy1 hy2 hy3 hm hm2
  have HV := Lib.hid (pie_bad i)
  clear hb hc1 hc2 hc3 hb1 hb2 hb3
  go_enter Tryd.func89, Tryd.ntmps89
  go_wp2_with fail
  refine (HC1.out _).mono ?_
  rintro e w2 ⟨rfl, rfl⟩
  go_wp2_with fail
  refine (HC2.out _).mono ?_
  rintro e w2 ⟨rfl, rfl⟩
  go_wp2_with fail
  refine (HC3.out _).mono ?_
  rintro e w2 ⟨rfl, rfl⟩
  go_wp2
  go_region
  all_goals go_wp2
  all_goals exact bodyPost_ret (v := pieV i (65533, 1)) (by rw [HV.out]; simp [results, Tryd.results89, go_sem]) rfl ⟨rfl, ((Below.refl _ _).alloc (Nat.le_refl _) _).drew⟩
set_option maxRecDepth 100000 in
set_option maxHeartbeats 2000000 in
theorem one_b11 (s : ByteArray) (i : Nat) (w : World) (hi : i < s.size) (hs : s.size ≤ 1099511627776) (h0 : 240 ≤ byN s.data.toList i) (h1 : byN s.data.toList i ≤ 244) (h2 : 1114111 < byN s.data.toList i % 8 * 262144 + byN s.data.toList (i + 1) % 64 * 4096 + byN s.data.toList (i + 2) % 64 * 64 + byN s.data.toList (i + 3) % 64) (hc1 : cont s (i + 1) = true) (hc2 : cont s (i + 2) = true) (hc3 : cont s (i + 3) = true) : Calls Tryd.prog 89 #[.string s, .int .i64 (i : Int)] w (RetPie w i (65533, 1)) := by
  have hb := byN_get s i hi
  have HC1 := Lib.hid (fun W => cont_any s (i + 1) W)
  rw [hc1] at HC1
  have HC2 := Lib.hid (fun W => cont_any s (i + 2) W)
  rw [hc2] at HC2
  have HC3 := Lib.hid (fun W => cont_any s (i + 3) W)
  rw [hc3] at HC3
  have hi1 : i + 1 < s.size := (cont_true hc1).1
  have hb1 := byN_get s (i + 1) hi1
  have hl1 := byN_lt s.data.toList (i + 1)
  have ht1 : ((i : Int) + 1).toNat = i + 1 := by omega
  have hI1 : (i : Int) + 1 < (s.size : Int) := by omega
  have hJ1 : 0 ≤ (i : Int) + 1 := by omega
  have hi2 : i + 2 < s.size := (cont_true hc2).1
  have hb2 := byN_get s (i + 2) hi2
  have hl2 := byN_lt s.data.toList (i + 2)
  have ht2 : ((i : Int) + 2).toNat = i + 2 := by omega
  have hI2 : (i : Int) + 2 < (s.size : Int) := by omega
  have hJ2 : 0 ≤ (i : Int) + 2 := by omega
  have hi3 : i + 3 < s.size := (cont_true hc3).1
  have hb3 := byN_get s (i + 3) hi3
  have hl3 := byN_lt s.data.toList (i + 3)
  have ht3 : ((i : Int) + 3).toNat = i + 3 := by omega
  have hI3 : (i : Int) + 3 < (s.size : Int) := by omega
  have hJ3 : 0 ≤ (i : Int) + 3 := by omega
  have hl := byN_lt s.data.toList i
  obtain ⟨c, hc⟩ : ∃ c, s[i] = c := ⟨_, rfl⟩
  rw [hc] at hb
  obtain ⟨c1, hd1⟩ : ∃ c, s[i + 1] = c := ⟨_, rfl⟩
  rw [hd1] at hb1
  obtain ⟨c2, hd2⟩ : ∃ c, s[i + 2] = c := ⟨_, rfl⟩
  rw [hd2] at hb2
  obtain ⟨c3, hd3⟩ : ∃ c, s[i + 3] = c := ⟨_, rfl⟩
  rw [hd3] at hb3
  rw [← hb] at hl h0 h1 h2
  rw [← hb1] at hl1 h2
  rw [← hb2] at hl2 h2
  rw [← hb3] at hl3 h2
  obtain ⟨x, hx⟩ : ∃ x, x = c.toNat % 8 := ⟨_, rfl⟩
  have e0 : bits .and .i32 (c.toNat : Int) 7 = (x : Int) := and_i32 3 _ _ (by rw [hx]) (by decide) (by omega)
  have hxl : x < 8 := by omega
  obtain ⟨y1, hy1⟩ : ∃ y, y = c1.toNat % 64 := ⟨_, rfl⟩
  have e1 : bits .and .i32 (c1.toNat : Int) 63 = (y1 : Int) := and_i32 6 _ _ (by rw [hy1]) (by decide) (by omega)
  have hyl1 : y1 < 64 := by omega
  obtain ⟨y2, hy2⟩ : ∃ y, y = c2.toNat % 64 := ⟨_, rfl⟩
  have e2 : bits .and .i32 (c2.toNat : Int) 63 = (y2 : Int) := and_i32 6 _ _ (by rw [hy2]) (by decide) (by omega)
  have hyl2 : y2 < 64 := by omega
  obtain ⟨y3, hy3⟩ : ∃ y, y = c3.toNat % 64 := ⟨_, rfl⟩
  have e3 : bits .and .i32 (c3.toNat : Int) 63 = (y3 : Int) := and_i32 6 _ _ (by rw [hy3]) (by decide) (by omega)
  have hyl3 : y3 < 64 := by omega
  rw [← hx, ← hy1, ← hy2, ← hy3] at h2
  obtain ⟨m, hm⟩ : ∃ m, m = x * 262144 + y1 * 4096 := ⟨_, rfl⟩
  have e5 : bits .or .i32 ((x : Int) * 262144) ((y1 : Int) * 4096) = (m : Int) := by rw [i32_or18 _ _ (by omega) (by omega) (by omega) (by omega) (by omega), hm]; simp
  obtain ⟨m2, hm2⟩ : ∃ m2, m2 = m + y2 * 64 := ⟨_, rfl⟩
  have e6 : bits .or .i32 (m : Int) ((y2 : Int) * 64) = (m2 : Int) := by rw [i32_or12 _ _ (by omega) (by omega) (by omega) (by omega) (by omega), hm2]; simp
  obtain ⟨r, hr⟩ : ∃ r, r = x * 262144 + y1 * 4096 + y2 * 64 + y3 := ⟨_, rfl⟩
  have e7 : bits .or .i32 (m2 : Int) (y3 : Int) = (r : Int) := by rw [i32_or6 _ _ (by omega) (by omega) (by omega) (by omega) (by omega), hr, hm2, hm]; simp
  rw [← hr] at h2
  have hrl : r < 2097152 := by omega
  clear hr hx hy1 hy2 hy3 hm hm2
  have HV := Lib.hid (pie_bad i)
  clear hb hc1 hc2 hc3 hb1 hb2 hb3
  go_enter Tryd.func89, Tryd.ntmps89
  go_wp2_with fail
  refine (HC1.out _).mono ?_
  rintro e w2 ⟨rfl, rfl⟩
  go_wp2_with fail
  refine (HC2.out _).mono ?_
  rintro e w2 ⟨rfl, rfl⟩
  go_wp2_with fail
  refine (HC3.out _).mono ?_
  rintro e w2 ⟨rfl, rfl⟩
  go_wp2
  go_region
  all_goals go_wp2
  all_goals exact bodyPost_ret (v := pieV i (65533, 1)) (by rw [HV.out]; simp [results, Tryd.results89, go_sem]) rfl ⟨rfl, ((Below.refl _ _).alloc (Nat.le_refl _) _).drew⟩
set_option maxRecDepth 100000 in
set_option maxHeartbeats 2000000 in
theorem one_four (s : ByteArray) (i : Nat) (w : World) (hi : i < s.size) (hs : s.size ≤ 1099511627776) (h0 : 240 ≤ byN s.data.toList i) (h1 : byN s.data.toList i ≤ 244) (h2 : 65536 ≤ byN s.data.toList i % 8 * 262144 + byN s.data.toList (i + 1) % 64 * 4096 + byN s.data.toList (i + 2) % 64 * 64 + byN s.data.toList (i + 3) % 64) (h3 : byN s.data.toList i % 8 * 262144 + byN s.data.toList (i + 1) % 64 * 4096 + byN s.data.toList (i + 2) % 64 * 64 + byN s.data.toList (i + 3) % 64 ≤ 1114111) (hc1 : cont s (i + 1) = true) (hc2 : cont s (i + 2) = true) (hc3 : cont s (i + 3) = true) : Calls Tryd.prog 89 #[.string s, .int .i64 (i : Int)] w (RetPie w i (byN s.data.toList i % 8 * 262144 + byN s.data.toList (i + 1) % 64 * 4096 + byN s.data.toList (i + 2) % 64 * 64 + byN s.data.toList (i + 3) % 64, 4)) := by
  have hb := byN_get s i hi
  have HC1 := Lib.hid (fun W => cont_any s (i + 1) W)
  rw [hc1] at HC1
  have HC2 := Lib.hid (fun W => cont_any s (i + 2) W)
  rw [hc2] at HC2
  have HC3 := Lib.hid (fun W => cont_any s (i + 3) W)
  rw [hc3] at HC3
  have hi1 : i + 1 < s.size := (cont_true hc1).1
  have hb1 := byN_get s (i + 1) hi1
  have hl1 := byN_lt s.data.toList (i + 1)
  have ht1 : ((i : Int) + 1).toNat = i + 1 := by omega
  have hI1 : (i : Int) + 1 < (s.size : Int) := by omega
  have hJ1 : 0 ≤ (i : Int) + 1 := by omega
  have hi2 : i + 2 < s.size := (cont_true hc2).1
  have hb2 := byN_get s (i + 2) hi2
  have hl2 := byN_lt s.data.toList (i + 2)
  have ht2 : ((i : Int) + 2).toNat = i + 2 := by omega
  have hI2 : (i : Int) + 2 < (s.size : Int) := by omega
  have hJ2 : 0 ≤ (i : Int) + 2 := by omega
  have hi3 : i + 3 < s.size := (cont_true hc3).1
  have hb3 := byN_get s (i + 3) hi3
  have hl3 := byN_lt s.data.toList (i + 3)
  have ht3 : ((i : Int) + 3).toNat = i + 3 := by omega
  have hI3 : (i : Int) + 3 < (s.size : Int) := by omega
  have hJ3 : 0 ≤ (i : Int) + 3 := by omega
  have hl := byN_lt s.data.toList i
  obtain ⟨c, hc⟩ : ∃ c, s[i] = c := ⟨_, rfl⟩
  rw [hc] at hb
  obtain ⟨c1, hd1⟩ : ∃ c, s[i + 1] = c := ⟨_, rfl⟩
  rw [hd1] at hb1
  obtain ⟨c2, hd2⟩ : ∃ c, s[i + 2] = c := ⟨_, rfl⟩
  rw [hd2] at hb2
  obtain ⟨c3, hd3⟩ : ∃ c, s[i + 3] = c := ⟨_, rfl⟩
  rw [hd3] at hb3
  rw [← hb] at hl h0 h1 h2 h3
  rw [← hb1] at hl1 h2 h3
  rw [← hb2] at hl2 h2 h3
  rw [← hb3] at hl3 h2 h3
  rw [← hb, ← hb1, ← hb2, ← hb3]
  obtain ⟨x, hx⟩ : ∃ x, x = c.toNat % 8 := ⟨_, rfl⟩
  have e0 : bits .and .i32 (c.toNat : Int) 7 = (x : Int) := and_i32 3 _ _ (by rw [hx]) (by decide) (by omega)
  have hxl : x < 8 := by omega
  obtain ⟨y1, hy1⟩ : ∃ y, y = c1.toNat % 64 := ⟨_, rfl⟩
  have e1 : bits .and .i32 (c1.toNat : Int) 63 = (y1 : Int) := and_i32 6 _ _ (by rw [hy1]) (by decide) (by omega)
  have hyl1 : y1 < 64 := by omega
  obtain ⟨y2, hy2⟩ : ∃ y, y = c2.toNat % 64 := ⟨_, rfl⟩
  have e2 : bits .and .i32 (c2.toNat : Int) 63 = (y2 : Int) := and_i32 6 _ _ (by rw [hy2]) (by decide) (by omega)
  have hyl2 : y2 < 64 := by omega
  obtain ⟨y3, hy3⟩ : ∃ y, y = c3.toNat % 64 := ⟨_, rfl⟩
  have e3 : bits .and .i32 (c3.toNat : Int) 63 = (y3 : Int) := and_i32 6 _ _ (by rw [hy3]) (by decide) (by omega)
  have hyl3 : y3 < 64 := by omega
  rw [← hx, ← hy1, ← hy2, ← hy3] at h2 h3 ⊢
  obtain ⟨m, hm⟩ : ∃ m, m = x * 262144 + y1 * 4096 := ⟨_, rfl⟩
  have e5 : bits .or .i32 ((x : Int) * 262144) ((y1 : Int) * 4096) = (m : Int) := by rw [i32_or18 _ _ (by omega) (by omega) (by omega) (by omega) (by omega), hm]; simp
  obtain ⟨m2, hm2⟩ : ∃ m2, m2 = m + y2 * 64 := ⟨_, rfl⟩
  have e6 : bits .or .i32 (m : Int) ((y2 : Int) * 64) = (m2 : Int) := by rw [i32_or12 _ _ (by omega) (by omega) (by omega) (by omega) (by omega), hm2]; simp
  obtain ⟨r, hr⟩ : ∃ r, r = x * 262144 + y1 * 4096 + y2 * 64 + y3 := ⟨_, rfl⟩
  have e7 : bits .or .i32 (m2 : Int) (y3 : Int) = (r : Int) := by rw [i32_or6 _ _ (by omega) (by omega) (by omega) (by omega) (by omega), hr, hm2, hm]; simp
  rw [← hr] at h2 h3 ⊢
  have hrl : r < 2097152 := by omega
  clear hr hx hy1 hy2 hy3 hm hm2
  have HV := Lib.hid (pie_good i r 4 (by omega))
  clear hb hc1 hc2 hc3 hb1 hb2 hb3
  go_enter Tryd.func89, Tryd.ntmps89
  go_wp2_with fail
  refine (HC1.out _).mono ?_
  rintro e w2 ⟨rfl, rfl⟩
  go_wp2_with fail
  refine (HC2.out _).mono ?_
  rintro e w2 ⟨rfl, rfl⟩
  go_wp2_with fail
  refine (HC3.out _).mono ?_
  rintro e w2 ⟨rfl, rfl⟩
  go_wp2
  go_region
  all_goals go_wp2
  all_goals exact bodyPost_ret (v := pieV i (r, 4)) (by rw [HV.out]; simp [results, Tryd.results89, go_sem]) rfl ⟨rfl, ((Below.refl _ _).alloc (Nat.le_refl _) _).drew⟩
end Go.Proofs.YtacmibkcnmaagaaDoor
