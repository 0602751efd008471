/-
  Texts of letters, with something amiss among them, as plain lists. Conditions: none.
-/
import Derived.Test.YtebijoipopiohaaDoorQTxV
import Derived.Test.YtebijoipopiohaaDoorQTxG
namespace Go.Proofs.YtebijoipopiohaaDoor
open Go.Shelf Go.RowKit Go.Lib

/-- The letters; what is amiss. -/
def letL : List (List UInt8) := [[97], [206, 177], [195, 169], [240, 159, 152, 128], [9], [239, 191, 189]]
def oddL : List (List UInt8) := [[255], [195], [226, 130], [0], [127], [27], [237, 160, 128]]
/-- The k-th letter. -/
def lbt (k : Nat) : List UInt8 := letL.getD (k % 6) []
theorem lbt_get (k : Nat) : letL[k % 6]? = some (lbt k) := by
  have : k % 6 < letL.length := by show k % 6 < 6; omega
  simp [lbt, List.getD, List.getElem?_eq_getElem this]
theorem let_pcs (t : List UInt8) : ∀ l ∈ letL, ∃ d, pcs (l ++ t) = d :: pcs t ∧ badD d = false := by
  intro l hl
  simp only [letL, List.mem_cons, List.not_mem_nil, or_false] at hl
  rcases hl with rfl | rfl | rfl | rfl | rfl | rfl
  · exact ⟨_, pcs_app (r := 97) (by simp) (by simp [dec, decodeN]), by decide⟩
  · exact ⟨_, pcs_app (r := 945) (by simp) (by simp [dec, decodeN]), by decide⟩
  · exact ⟨_, pcs_app (r := 233) (by simp) (by simp [dec, decodeN]), by decide⟩
  · exact ⟨_, pcs_app (r := 128512) (by simp) (by simp [dec, decodeN]), by decide⟩
  · exact ⟨_, pcs_app (r := 9) (by simp) (by simp [dec, decodeN]), by decide⟩
  · exact ⟨_, pcs_app (r := 65533) (by simp) (by simp [dec, decodeN]), by decide⟩
theorem lbt_mem (k : Nat) : lbt k ∈ letL := List.mem_of_getElem? (lbt_get k)
theorem lbt_len (k : Nat) : (lbt k).length ≤ 4 := by
  have := lbt_mem k
  simp only [letL, List.mem_cons, List.not_mem_nil, or_false] at this
  rcases this with h | h | h | h | h | h <;> rw [h] <;> decide
theorem odd_pcs (t : List UInt8) : ∀ l ∈ oddL, ∃ d r, pcs (l ++ 32 :: t) = d :: r ∧ badD d = true := by
  intro l hl
  simp only [oddL, List.mem_cons, List.not_mem_nil, or_false] at hl
  rcases hl with rfl | rfl | rfl | rfl | rfl | rfl | rfl
  · exact ⟨(65533, 1), _, by rw [pcs_cons _ (by simp), show dec ([255] ++ 32 :: t) = (65533, 1) by simp [dec, decodeN]], by decide⟩
  · exact ⟨(65533, 1), _, by rw [pcs_cons _ (by simp), show dec ([195] ++ 32 :: t) = (65533, 1) by simp [dec, decodeN]], by decide⟩
  · exact ⟨(65533, 1), _, by rw [pcs_cons _ (by simp), show dec ([226, 130] ++ 32 :: t) = (65533, 1) by simp [dec, decodeN]], by decide⟩
  · exact ⟨(0, 1), _, by rw [pcs_cons _ (by simp), show dec ([0] ++ 32 :: t) = (0, 1) by simp [dec, decodeN]], by decide⟩
  · exact ⟨(127, 1), _, by rw [pcs_cons _ (by simp), show dec ([127] ++ 32 :: t) = (127, 1) by simp [dec, decodeN]], by decide⟩
  · exact ⟨(27, 1), _, by rw [pcs_cons _ (by simp), show dec ([27] ++ 32 :: t) = (27, 1) by simp [dec, decodeN]], by decide⟩
  · exact ⟨(65533, 1), _, by rw [pcs_cons _ (by simp), show dec ([237, 160, 128] ++ 32 :: t) = (65533, 1) by simp [dec, decodeN]], by decide⟩
/-- Letters from the a-th on. -/
def sgt (a : Nat) : Nat → List UInt8
  | 0 => []
  | m + 1 => sgt a m ++ lbt (a + m)
theorem sgt_len (a : Nat) : ∀ m, (sgt a m).length ≤ 4 * m
  | 0 => by simp [sgt]
  | m + 1 => by
    have h1 := sgt_len a m
    have h2 := lbt_len (a + m)
    simp [sgt]
    omega
theorem sgt_pcs (a : Nat) : ∀ (m : Nat) (t : List UInt8), ∃ p, pcs (sgt a m ++ t) = p ++ pcs t ∧ p.length = m ∧ ∀ d ∈ p, badD d = false
  | 0, t => ⟨[], by simp [sgt], rfl, by simp⟩
  | m + 1, t => by
    obtain ⟨p, h1, h2, h3⟩ := sgt_pcs a m (lbt (a + m) ++ t)
    obtain ⟨d, k1, k2⟩ := let_pcs t _ (lbt_mem (a + m))
    refine ⟨p ++ [d], by rw [sgt, List.append_assoc, h1, k1]; simp, by simp [h2], fun x hx => ?_⟩
    rcases List.mem_append.1 hx with hx | hx
    · exact h3 x hx
    · simp at hx; subst hx; exact k2
/-- The text with something amiss ahead of the a-th letter, so many letters long. -/
def oddT (o : List UInt8) (a i : Nat) : List UInt8 := if i ≤ a then sgt 0 i else sgt 0 a ++ (o ++ 32 :: sgt a (i - a))
theorem oddT_step (o : List UInt8) (a i : Nat) (h : i ≠ a) : oddT o a i ++ lbt i = oddT o a (i + 1) := by
  unfold oddT
  by_cases h1 : i ≤ a
  · rw [if_pos h1, if_pos (by omega)]
    simp [sgt]
  · rw [if_neg h1, if_neg (by omega), show i + 1 - a = (i - a) + 1 by omega]
    simp [sgt, show a + (i - a) = i by omega]
theorem oddT_at (o : List UInt8) (a : Nat) : oddT o a a ++ (o ++ [32]) ++ lbt a = oddT o a (a + 1) := by
  unfold oddT
  rw [if_pos (Nat.le_refl _), if_neg (by omega), show a + 1 - a = 0 + 1 by omega]
  simp [sgt]
theorem oddT_len (o : List UInt8) (a i : Nat) (ho : o.length ≤ 3) : (oddT o a i).length ≤ 4 * i + 4 := by
  unfold oddT
  split
  · have := sgt_len 0 i
    omega
  · have h1 := sgt_len 0 a
    have h2 := sgt_len a (i - a)
    simp
    omega
theorem odd_len : ∀ o ∈ oddL, o.length ≤ 3 := by decide
theorem good_text (s : ByteArray) (n : Nat) (h : s.data.toList = sgt 0 n) : noBad s ∧ cntR s = n := by
  obtain ⟨p, h1, h2, h3⟩ := sgt_pcs 0 n []
  rw [List.append_nil, pcs_nil, List.append_nil] at h1
  unfold noBad cntR
  rw [h, h1]
  exact ⟨h3, h2⟩
theorem bad_text (s : ByteArray) (o : List UInt8) (a n : Nat) (ho : o ∈ oddL) (ha : a < n) (h : s.data.toList = oddT o a n) : badAt s a := by
  obtain ⟨d, r, k1, k2⟩ := odd_pcs (sgt a (n - a)) o ho
  obtain ⟨p, h1, h2, h3⟩ := sgt_pcs 0 a (o ++ 32 :: sgt a (n - a))
  refine ⟨p, d, r, ?_, h2, h3, k2⟩
  rw [h, oddT, if_neg (by omega), h1, k1]

/-- Texts that lie in memory, as they were built. -/
def strC (l : List (List UInt8)) : Array Value := (l.map fun b => Value.string ⟨b.toArray⟩).toArray
theorem strC_cell {w : World} {g : Nat} {l : List (List UInt8)} (h : Blk w g 9 (strC l)) (k : Nat) (b : List UInt8) (hb : l[k]? = some b) : w.cell? ⟨g, k, none⟩ = some (.string ⟨b.toArray⟩) := by
  rw [h.cell]
  simp [strC, hb]
/-- An error at a place is this fault. -/
theorem same_at' (w : World) (ads : List Addr) (m b : Nat) (a : Addr) (c pos p : Int) (h : Sents w ads) (ha : ads[m]? = some a) (hb : Blk w b 41 #[.int .i64 pos, .iface 56 (.pointer (some a))]) (hc : c = 101 + (m : Int)) (hp : p = pos) :
    Calls Tryd.prog 8 #[.iface 39 (.pointer (some ⟨b, 0, none⟩)), fault c true false p 0] w (RetB w (.bool true)) := by
  subst hc; subst hp
  exact same_fault w _ _ _ _ fun _ hB => fault_placed _ ads m b a _ (h.later hB) ha (hb.below hB hb.lt)
end Go.Proofs.YtebijoipopiohaaDoor
