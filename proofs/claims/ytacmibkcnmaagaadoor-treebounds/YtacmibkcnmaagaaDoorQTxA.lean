/-
  Runes of bytes as plain lists: each rune with its width. Conditions: none.
-/
import Derived.Lib.DecodeN
namespace Go.Proofs.YtacmibkcnmaagaaDoor
open Go.Lib

/-- The rune at the head of bytes, and its width. -/
def dec (l : List UInt8) : Nat × Nat := decodeN l.length (l[0]?.getD 0).toNat (l[1]?.getD 0).toNat (l[2]?.getD 0).toNat (l[3]?.getD 0).toNat

theorem get!_toList (s : ByteArray) (i : Nat) : s.get! i = (s.data.toList[i]?).getD 0 := by
  show s.data[i]! = _
  rw [Array.getElem?_toList]
  simp [Array.getElem!_eq_getD, Array.getD_eq_getD_getElem?]
  rfl
theorem decode_dec (s : ByteArray) (k : Nat) : Utf8.decode s k = dec (s.data.toList.drop k) := by
  rw [decode_at]
  unfold dec
  simp only [get!_toList, List.getElem?_drop, List.length_drop, Array.length_toList, Nat.add_zero]
  rfl
theorem dec_pos (l : List UInt8) : 1 ≤ (dec l).2 := by
  unfold dec decodeN
  repeat' split
  all_goals simp
theorem dec_le (l : List UInt8) (h : l ≠ []) : (dec l).2 ≤ l.length := by
  have h1 : 1 ≤ l.length := by cases l with | nil => exact absurd rfl h | cons a t => simp
  unfold dec decodeN
  repeat' split
  all_goals simp
  all_goals omega
theorem dec_rune (l : List UInt8) : (dec l).1 ≤ 1114111 := by
  have h0 := UInt8.toNat_lt (l[0]?.getD 0)
  unfold dec decodeN
  repeat' split
  all_goals simp
  all_goals omega

/-- The runes of bytes, each with its width. -/
def pcs (l : List UInt8) : List (Nat × Nat) :=
  match l with
  | [] => []
  | a :: t => dec (a :: t) :: pcs (t.drop ((dec (a :: t)).2 - 1))
termination_by l.length
decreasing_by simp; omega
theorem pcs_nil : pcs [] = [] := by rw [pcs]
theorem pcs_cons (l : List UInt8) (h : l ≠ []) : pcs l = dec l :: pcs (l.drop (dec l).2) := by
  cases l with
  | nil => exact absurd rfl h
  | cons a t =>
    rw [pcs]
    have := dec_pos (a :: t)
    obtain ⟨n, hn⟩ : ∃ n, (dec (a :: t)).2 = n + 1 := ⟨(dec (a :: t)).2 - 1, by omega⟩
    rw [hn]
    rfl
theorem pcs_drop (l : List UInt8) (k : Nat) (h : k < l.length) : pcs (l.drop k) = dec (l.drop k) :: pcs (l.drop (k + (dec (l.drop k)).2)) := by
  rw [pcs_cons _ (by intro e; have := congrArg List.length e; simp at this; omega), List.drop_drop]
theorem pcs_end (l : List UInt8) (k : Nat) (h : ¬ k < l.length) : pcs (l.drop k) = [] := by
  rw [List.drop_eq_nil_of_le (by omega), pcs_nil]
/-- A whole piece at the head. -/
theorem pcs_app {p l : List UInt8} {r : Nat} (hp : p ≠ []) (h : dec (p ++ l) = (r, p.length)) : pcs (p ++ l) = (r, p.length) :: pcs l := by
  rw [pcs_cons _ (by simp [hp]), h]
  simp
theorem pcs_length_le : ∀ (n : Nat) (l : List UInt8), l.length ≤ n → (pcs l).length ≤ l.length
  | 0, l, h => by obtain rfl := List.eq_nil_of_length_eq_zero (Nat.le_zero.1 h); rw [pcs_nil]; simp
  | n + 1, l, h => by
    by_cases hl : l = []
    · subst hl; rw [pcs_nil]; simp
    · have h1 := dec_pos l
      have h2 := dec_le l hl
      have := pcs_length_le n (l.drop (dec l).2) (by simp; omega)
      rw [pcs_cons l hl]
      simp at this ⊢
      omega
theorem pcs_len (l : List UInt8) : (pcs l).length ≤ l.length := pcs_length_le _ l (Nat.le_refl _)
/-- The widths add up to the bytes. -/
def wid (p : List (Nat × Nat)) : Nat := (p.map (·.2)).sum
theorem pcs_wid : ∀ (n : Nat) (l : List UInt8), l.length ≤ n → wid (pcs l) = l.length
  | 0, l, h => by obtain rfl := List.eq_nil_of_length_eq_zero (Nat.le_zero.1 h); rw [pcs_nil]; rfl
  | n + 1, l, h => by
    by_cases hl : l = []
    · subst hl; rw [pcs_nil]; rfl
    · have h1 := dec_pos l
      have h2 := dec_le l hl
      have := pcs_wid n (l.drop (dec l).2) (by simp; omega)
      rw [pcs_cons l hl]
      simp [wid] at this ⊢
      omega
theorem pcs_rune : ∀ (n : Nat) (l : List UInt8), l.length ≤ n → ∀ p ∈ pcs l, p.1 ≤ 1114111 ∧ 1 ≤ p.2
  | 0, l, h => by obtain rfl := List.eq_nil_of_length_eq_zero (Nat.le_zero.1 h); rw [pcs_nil]; simp
  | n + 1, l, h => by
    by_cases hl : l = []
    · subst hl; rw [pcs_nil]; simp
    · have h1 := dec_pos l
      have h2 := dec_le l hl
      have := pcs_rune n (l.drop (dec l).2) (by simp; omega)
      rw [pcs_cons l hl]
      intro p hp
      rcases List.mem_cons.1 hp with rfl | hp
      · exact ⟨dec_rune l, h1⟩
      · exact this p hp

/-- Their places and runes, from a place on. -/
def nums : Nat → List (Nat × Nat) → List (Nat × Nat)
  | _, [] => []
  | i, p :: t => (i, p.1) :: nums (i + 1) t
theorem nums_length : ∀ (i : Nat) (l : List (Nat × Nat)), (nums i l).length = l.length
  | _, [] => rfl
  | i, p :: t => by simp [nums, nums_length (i + 1) t]
/-- The places and runes of bytes. -/
def runs (l : List UInt8) : List (Nat × Nat) := nums 0 (pcs l)
theorem runs_length (l : List UInt8) : (runs l).length = (pcs l).length := nums_length 0 _
end Go.Proofs.YtacmibkcnmaagaaDoor
