/-
  The walks of the document's one and Pieces. Conditions: each theorem's own premises.
-/
import Derived.Test.YtacmibkcnmaagaaDoorQTxP
import Derived.Test.YtacmibkcnmaagaaDoorQTxR
namespace Go.Proofs.YtacmibkcnmaagaaDoor
open Go.Shelf Go.RowKit Go.Lib

set_option maxRecDepth 100000 in
theorem one_any (s : ByteArray) (i : Nat) (w : World) (hi : i < s.size) (hs : s.size ≤ 1099511627776) : Calls Tryd.prog 89 #[.string s, .int .i64 (i : Int)] w (RetPie w i (dec (s.data.toList.drop i))) := by
  have hd := dec_byN (s.data.toList.drop i)
  simp only [byN_drop, Nat.add_zero, List.length_drop, Array.length_toList] at hd
  have hsz : s.data.size = s.size := rfl
  rw [hsz] at hd
  rw [hd]
  have hl := byN_lt s.data.toList i
  clear hd
  by_cases a1 : byN s.data.toList i < 128
  · have := one_ascii s i w hi hs a1
    unfold decodeN
    rwa [if_pos a1]
  by_cases a2 : byN s.data.toList i < 194
  · have := one_b1 s i w hi hs (by omega) a2
    unfold decodeN
    rw [if_neg a1]
    by_cases b : byN s.data.toList i / 32 = 6 ∧ 1 < s.size - i ∧ byN s.data.toList (i + 1) / 64 = 2
    · rw [if_pos b, if_neg (by omega)]
      exact this
    · rw [if_neg b, if_neg (by omega), if_neg (by omega)]
      exact this
  by_cases a3 : byN s.data.toList i ≤ 223
  · cases hc1 : cont s (i + 1)
    · have h1 := cont_false hc1
      have := one_b2 s i w hi hs (by omega) a3 hc1
      unfold decodeN
      rw [if_neg a1, if_neg (by omega), if_neg (by omega), if_neg (by omega)]
      exact this
    · have h1 := cont_true hc1
      have := one_two s i w hi hs (by omega) a3 hc1
      unfold decodeN
      rw [if_neg a1, if_pos (by omega), if_pos (by omega)]
      exact this
  by_cases a4 : byN s.data.toList i ≤ 239
  · cases hc1 : cont s (i + 1)
    · have h1 := cont_false hc1
      have := one_b3 s i w hi hs (by omega) a4 hc1
      unfold decodeN
      rw [if_neg a1, if_neg (by omega), if_neg (by omega), if_neg (by omega)]
      exact this
    · have h1 := cont_true hc1
      cases hc2 : cont s (i + 2)
      · have h2 := cont_false hc2
        have := one_b4 s i w hi hs (by omega) a4 hc1 hc2
        unfold decodeN
        rw [if_neg a1, if_neg (by omega), if_neg (by omega), if_neg (by omega)]
        exact this
      · have h2 := cont_true hc2
        unfold decodeN
        rw [if_neg a1, if_neg (by omega), if_pos (by omega)]
        have k5 := one_b5 s i w hi hs (by omega) a4
        have k6 := one_b6 s i w hi hs (by omega) a4
        have k7 := one_three s i w hi hs (by omega) a4
        have k8 := one_three2 s i w hi hs (by omega) a4
        have hr : byN s.data.toList i % 16 * 4096 + byN s.data.toList (i + 1) % 64 * 64 + byN s.data.toList (i + 2) % 64 < 65536 := by omega
        generalize byN s.data.toList i % 16 * 4096 + byN s.data.toList (i + 1) % 64 * 64 + byN s.data.toList (i + 2) % 64 = r at *
        by_cases b1 : r < 2048
        · rw [if_neg (by omega)]
          exact k5 b1 hc1 hc2
        by_cases b2 : r < 55296
        · rw [if_pos (by omega)]
          exact k7 (by omega) b2 hc1 hc2
        by_cases b3 : r ≤ 57343
        · rw [if_neg (by omega)]
          exact k6 (by omega) b3 hc1 hc2
        · rw [if_pos (by omega)]
          exact k8 (by omega) hc1 hc2
  by_cases a5 : byN s.data.toList i ≤ 244
  · cases hc1 : cont s (i + 1)
    · have h1 := cont_false hc1
      have := one_b7 s i w hi hs (by omega) a5 hc1
      unfold decodeN
      rw [if_neg a1, if_neg (by omega), if_neg (by omega), if_neg (by omega)]
      exact this
    · have h1 := cont_true hc1
      cases hc2 : cont s (i + 2)
      · have h2 := cont_false hc2
        have := one_b8 s i w hi hs (by omega) a5 hc1 hc2
        unfold decodeN
        rw [if_neg a1, if_neg (by omega), if_neg (by omega), if_neg (by omega)]
        exact this
      · have h2 := cont_true hc2
        cases hc3 : cont s (i + 3)
        · have h3 := cont_false hc3
          have := one_b9 s i w hi hs (by omega) a5 hc1 hc2 hc3
          unfold decodeN
          rw [if_neg a1, if_neg (by omega), if_neg (by omega), if_neg (by omega)]
          exact this
        · have h3 := cont_true hc3
          unfold decodeN
          rw [if_neg a1, if_neg (by omega), if_neg (by omega), if_pos (by omega)]
          have k5 := one_b10 s i w hi hs (by omega) a5
          have k6 := one_b11 s i w hi hs (by omega) a5
          have k7 := one_four s i w hi hs (by omega) a5
          generalize byN s.data.toList i % 8 * 262144 + byN s.data.toList (i + 1) % 64 * 4096 + byN s.data.toList (i + 2) % 64 * 64 + byN s.data.toList (i + 3) % 64 = r at *
          by_cases b1 : r < 65536
          · rw [if_neg (by omega)]
            exact k5 b1 hc1 hc2 hc3
          by_cases b2 : r ≤ 1114111
          · rw [if_pos (by omega)]
            exact k7 (by omega) b2 hc1 hc2 hc3
          · rw [if_neg (by omega)]
            exact k6 (by omega) hc1 hc2 hc3
  · have := one_b12 s i w hi hs (by omega)
    unfold decodeN
    rw [if_neg a1, if_neg (by omega), if_neg (by omega)]
    by_cases b : byN s.data.toList i / 8 = 30 ∧ (1 < s.size - i ∧ byN s.data.toList (i + 1) / 64 = 2) ∧ (2 < s.size - i ∧ byN s.data.toList (i + 2) / 64 = 2) ∧ (3 < s.size - i ∧ byN s.data.toList (i + 3) / 64 = 2)
    · rw [if_pos b, if_neg (by omega)]
      exact this
    · rw [if_neg b]
      exact this

/-- The pieces of a text: where each begins, its rune and width. -/
def pies : Nat → List (Nat × Nat) → List (Nat × Nat × Nat)
  | _, [] => []
  | i, d :: t => (i, d) :: pies (i + d.2) t
theorem pies_snoc : ∀ (i : Nat) (l : List (Nat × Nat)) (d : Nat × Nat), pies i (l ++ [d]) = pies i l ++ [(i + wid l, d)]
  | i, [], d => by simp [pies, wid]
  | i, q :: t, d => by
    have := pies_snoc (i + q.2) t d
    simp [pies, this, wid]
    omega
theorem pies_length : ∀ (i : Nat) (l : List (Nat × Nat)), (pies i l).length = l.length
  | _, [] => rfl
  | i, d :: t => by simp [pies, pies_length (i + d.2) t]
theorem pies_get : ∀ (i : Nat) (l : List (Nat × Nat)) (k : Nat) (x : Nat × Nat × Nat), (pies i l)[k]? = some x → l[k]? = some x.2
  | i, d :: t, 0, x, h => by simp [pies] at h; subst h; rfl
  | i, d :: t, k + 1, x, h => by
    have := pies_get (i + d.2) t k x (by simpa [pies] using h)
    simpa using this
/-- How a piece lies. -/
def LP : Lie (Nat × Nat × Nat) := ⟨75, 4, fun x => [.int .i32 (x.2.1 : Int), .int .i64 (x.1 : Int), .int .i64 ((x.1 + x.2.2 : Nat) : Int), .bool (decide (x.2 = (65533, 1)))], fun _ => rfl, fun _ u hu => by
  simp at hu
  rcases hu with rfl | rfl | rfl | rfl <;> rfl⟩
theorem LPat : LieAt Tryd.prog 71 LP := by
  have h : (Tryd.prog.info? 75).map (fun i => (i.zero, i.size, i.bytes)) = some (some (.agg #[.int .i32 0, .int .i64 0, .int .i64 0, .bool false]), 4, 32) := by kernel_rfl
  obtain ⟨i0, hi, hz0, hz1, hz2⟩ := info_parts h
  exact ⟨Tryd.underlying71, ⟨i0, _, hi, hz0, hz1, by omega, rfl⟩, by show 0 < 4; omega⟩
end Go.Proofs.YtacmibkcnmaagaaDoor
