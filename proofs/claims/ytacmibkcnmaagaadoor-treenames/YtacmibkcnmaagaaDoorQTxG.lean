/-
  The walks of Count, offset and Cut. Conditions: each theorem's own premises.
-/
import Derived.Test.YtacmibkcnmaagaaDoorQTxF
namespace Go.Proofs.YtacmibkcnmaagaaDoor
open Go.Shelf Go.RowKit Go.Lib

/-- How many runes. -/
def cntR (s : ByteArray) : Nat := (pcs s.data.toList).length
theorem cntR_le (s : ByteArray) : cntR s ≤ s.size := by unfold cntR; simpa using pcs_len s.data.toList
theorem At.len {s : ByteArray} {pre : List (Nat × Nat)} {k : Nat} (h : At s pre k) (hk : ¬ k < s.size) : pre.length = cntR s := by rw [h.done hk, runs_length]; rfl
theorem At.le {s : ByteArray} {pre : List (Nat × Nat)} {k : Nat} (h : At s pre k) : pre.length ≤ s.size := by
  have h1 := h.pre.length_le
  rw [runs_length] at h1
  have := cntR_le s
  unfold cntR at this
  omega
/-- How many bytes stand ahead of a place. -/
def off (s : ByteArray) (n : Nat) : Nat := wid ((pcs s.data.toList).take n)
theorem wid_append (a b : List (Nat × Nat)) : wid (a ++ b) = wid a + wid b := by simp [wid]
theorem off_zero (s : ByteArray) : off s 0 = 0 := rfl
theorem off_all (s : ByteArray) (n : Nat) (h : cntR s ≤ n) : off s n = s.size := by
  unfold off
  rw [List.take_of_length_le h, pcs_wid _ _ (Nat.le_refl _)]
  simp
theorem off_mono (s : ByteArray) (m n : Nat) (h : m ≤ n) : off s m ≤ off s n := by
  unfold off
  obtain ⟨d, rfl⟩ : ∃ d, n = m + d := ⟨n - m, by omega⟩
  rw [List.take_add, wid_append]
  omega
theorem off_le (s : ByteArray) (n : Nat) : off s n ≤ s.size := by
  rw [← off_all s (max n (cntR s)) (by omega)]
  exact off_mono s _ _ (by omega)
theorem At.off {s : ByteArray} {pre : List (Nat × Nat)} {k : Nat} (h : At s pre k) (hk : k ≤ s.size) : off s pre.length = k := by
  obtain ⟨a, h1, h2⟩ := h.all
  have e1 := pcs_wid _ (s.data.toList.drop k) (Nat.le_refl _)
  have e2 := pcs_wid _ s.data.toList (Nat.le_refl _)
  rw [h1, wid_append] at e2
  simp at e1 e2
  have e3 : wid a = k := by omega
  unfold Go.Proofs.YtacmibkcnmaagaaDoor.off
  rw [h2, nums_length, h1, List.take_left' rfl]
  exact e3



end Go.Proofs.YtacmibkcnmaagaaDoor
