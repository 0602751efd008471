/-
  The walks of Count, offset and Cut. Conditions: each theorem's own premises.
-/
import Derived.Test.YtebijoipopiohaaDoorQTxF
namespace Go.Proofs.YtebijoipopiohaaDoor
open Go.Shelf Go.RowKit Go.Lib

/-- How many runes. -/
def cntR (s : ByteArray) : Nat := (pcs s.data.toList).length
theorem cntR_le (s : ByteArray) : cntR s ≤ s.size := by unfold cntR; simpa using pcs_len s.data.toList
theorem At.len {s : ByteArray} {pre : List (Nat × Nat)} {k : Nat} (h : At s pre k) (hk : ¬ k < s.size) : pre.length = cntR s := by rw [h.done hk, runs_length]; rfl
theorem At.le {s : ByteArray} {pre : List (Nat × Nat)} {k : Nat} (h : At s pre k) : pre.length ≤ s.size := by
  have h1 := h.pre.length_le
  rw [runs_length] at h1
  have := cntR_le s
  unfold cntR at this
  omega
/-- How many bytes stand ahead of a place. -/
def off (s : ByteArray) (n : Nat) : Nat := wid ((pcs s.data.toList).take n)
theorem wid_append (a b : List (Nat × Nat)) : wid (a ++ b) = wid a + wid b := by simp [wid]
theorem off_zero (s : ByteArray) : off s 0 = 0 := rfl
theorem off_all (s : ByteArray) (n : Nat) (h : cntR s ≤ n) : off s n = s.size := by
  unfold off
  rw [List.take_of_length_le h, pcs_wid _ _ (Nat.le_refl _)]
  simp
theorem off_mono (s : ByteArray) (m n : Nat) (h : m ≤ n) : off s m ≤ off s n := by
  unfold off
  obtain ⟨d, rfl⟩ : ∃ d, n = m + d := ⟨n - m, by omega⟩
  rw [List.take_add, wid_append]
  omega
theorem off_le (s : ByteArray) (n : Nat) : off s n ≤ s.size := by
  rw [← off_all s (max n (cntR s)) (by omega)]
  exact off_mono s _ _ (by omega)
theorem At.off {s : ByteArray} {pre : List (Nat × Nat)} {k : Nat} (h : At s pre k) (hk : k ≤ s.size) : off s pre.length = k := by
  obtain ⟨a, h1, h2⟩ := h.all
  have e1 := pcs_wid _ (s.data.toList.drop k) (Nat.le_refl _)
  have e2 := pcs_wid _ s.data.toList (Nat.le_refl _)
  rw [h1, wid_append] at e2
  simp at e1 e2
  have e3 : wid a = k := by omega
  unfold Go.Proofs.YtebijoipopiohaaDoor.off
  rw [h2, nums_length, h1, List.take_left' rfl]
  exact e3

/-- Where a loop over a string stands, counting. -/
def CtRel (w : World) (s : ByteArray) (x : Value) (wr : World) : Prop :=
  ∃ (k : Nat) (pre : List (Nat × Nat)), k ≤ s.size ∧ At s pre k ∧ x = .int .i64 (pre.length : Int) ∧ wr.heap[w.heap.size]? = some (.stringIter s k) ∧ Below w.heap.size w wr

set_option maxRecDepth 100000 in
set_option maxHeartbeats 400000 in
theorem count_any (s : ByteArray) (w : World) (hs : s.size ≤ 4611686018427387904) : Calls Tryd.prog 7 #[.string s] w fun e w' => e = .returned (.int .i64 (cntR s : Int)) ∧ Below w.heap.size w w' := by
  go_enter Tryd.func7, Tryd.ntmps7
  go_wp2
  go_loopw [3] (fun x wr => CtRel w s x wr) (fun _ wr => s.size - wr.iterPos w.heap.size)
  case atStart => exact ⟨0, [], by omega, At.start s, rfl, World.iter_heap w s 0, (Below.refl _ _).alloc (Nat.le_refl _) _⟩
  case round =>
    obtain ⟨k, pre, hk, hA, rfl, hit, hB⟩ := hrel
    have HP := Lib.hid (iterPos_of hit)
    have hle := hA.le
    by_cases hp : k < s.size
    · have hwd := dec_pos (s.data.toList.drop k)
      have hwl := dec_le (s.data.toList.drop k) (by intro e; have := congrArg List.length e; simp at this; omega)
      rw [← decode_dec] at hwd hwl
      have hk2 : k + (Utf8.decode s k).2 ≤ s.size := by simp at hwl; omega
      have hnx : ∀ ty, (Instr.next (.pointer (some ⟨w.heap.size, 0, none⟩)) true ty).run Tryd.prog wr = _ := fun ty => Lib.run_next_any_at wr w.heap.size s k ty hit hp
      have hB2 := Lib.below_iterAt hB (k := w.heap.size) (Nat.le_refl _) s (k + (Utf8.decode s k).2)
      have hit2 := Lib.iterAt_heap wr w.heap.size s k (k + (Utf8.decode s k).2) hit
      have HI2 := Lib.hid hit2
      have HY : Hid (CtRel w s (.int .i64 ((pre.length : Int) + 1)) (wr.iterAt w.heap.size s (k + (Utf8.decode s k).2))) := Lib.hid ⟨_, _, hk2, hA.step hp, by simp, hit2, hB2⟩
      clear hB2 hit2 hit hB hA hwl
      go_wp2
      go_roundw
      case rel => exact HY.out
      case measure =>
        rw [iterPos_of HI2.out, HP.out]
        omega
    · have hnx : ∀ ty, (Instr.next (.pointer (some ⟨w.heap.size, 0, none⟩)) true ty).run Tryd.prog wr = _ := fun ty => Lib.run_next_end_at wr w.heap.size s k ty hit hp
      have HL := Lib.hid (hA.len hp)
      clear hA
      go_wp2
      go_ret
      exact ⟨by rw [← HL.out]; rfl, hB⟩


end Go.Proofs.YtebijoipopiohaaDoor
