/-
  The walk of Runes and of what it hands back: the contract of the iterator. Conditions: each theorem's own premises.
-/
import Derived.Test.YtacmibkcnmaagaaDoorQTxB
import Derived.Lib.OthersKept
import Derived.RangeFuncNested
import Derived.RangeFuncBound
import Derived.RangeFuncCalls
import Derived.RangeFuncLeaves
import Derived.RangeFuncBox
import Derived.Shelf.Abstract
import Derived.Shelf.RegionOpen
import Derived.OwnWalkIn
import Derived.TacticsInMore
import Derived.LoopNIn
import Derived.LoopIn
namespace Go.Proofs.YtacmibkcnmaagaaDoor
open Go.Shelf Go.RowKit Go.Lib
attribute [local go_sem] Oper.semAt_some

/-- A place and a rune, as values. -/
def runV (x : Nat × Nat) : Array Value := #[.int .i64 (x.1 : Int), .int .i32 (x.2 : Int)]

theorem nums_snoc : ∀ (i : Nat) (l : List (Nat × Nat)) (p : Nat × Nat), nums i (l ++ [p]) = nums i l ++ [(i + l.length, p.1)]
  | i, [], p => by simp [nums]
  | i, q :: t, p => by
    have := nums_snoc (i + 1) t p
    simp [nums, this]
    omega
/-- What has come, and what is still to come. -/
structure At (s : ByteArray) (pre : List (Nat × Nat)) (k : Nat) : Prop where
  all : ∃ a, pcs s.data.toList = a ++ pcs (s.data.toList.drop k) ∧ pre = nums 0 a
theorem At.start (s : ByteArray) : At s [] 0 := ⟨[], by simp, rfl⟩
theorem At.step {s : ByteArray} {pre : List (Nat × Nat)} {k : Nat} (h : At s pre k) (hk : k < s.size) : At s (pre ++ [(pre.length, (Utf8.decode s k).1)]) (k + (Utf8.decode s k).2) := by
  obtain ⟨a, h1, h2⟩ := h.all
  rw [pcs_drop _ k (by simpa using hk), ← decode_dec] at h1
  refine ⟨a ++ [Utf8.decode s k], by simp [h1], ?_⟩
  rw [nums_snoc, h2, nums_length, Nat.zero_add]
theorem At.lt {s : ByteArray} {pre : List (Nat × Nat)} {k : Nat} (h : At s pre k) (hk : k < s.size) : pre.length < (runs s.data.toList).length := by
  obtain ⟨a, h1, h2⟩ := h.all
  rw [pcs_drop _ k (by simpa using hk)] at h1
  rw [runs_length, h1, h2, nums_length]
  simp
theorem At.done {s : ByteArray} {pre : List (Nat × Nat)} {k : Nat} (h : At s pre k) (hk : ¬ k < s.size) : pre = runs s.data.toList := by
  obtain ⟨a, h1, h2⟩ := h.all
  rw [pcs_end _ k (by simpa using hk)] at h1
  rw [runs, h1, h2]
  simp
theorem nums_append : ∀ (i : Nat) (a b : List (Nat × Nat)), nums i (a ++ b) = nums i a ++ nums (i + a.length) b
  | i, [], b => by simp [nums]
  | i, q :: t, b => by
    have := nums_append (i + 1) t b
    simp [nums, this]
    congr 1
    omega
theorem At.pre {s : ByteArray} {pre : List (Nat × Nat)} {k : Nat} (h : At s pre k) : pre <+: runs s.data.toList := by
  obtain ⟨a, h1, h2⟩ := h.all
  exact ⟨nums (0 + a.length) (pcs (s.data.toList.drop k)), by rw [runs, h1, nums_append, h2]⟩
theorem abides_iter {J : List (Nat × Nat) → World → Prop} {B : Nat} (h : AbidesFrom B J) {pre : List (Nat × Nat)} {W : World} {k : Nat} {s : ByteArray} {pos : Nat} (pos' : Nat) (hk : W.heap[k]? = some (.stringIter s pos)) (hB : B ≤ k) (hJ : J pre W) : J pre (W.iterAt k s pos') :=
  h pre W _ (some k) hJ ⟨rfl, rfl, rfl, by rw [Lib.iterAt_size]; exact Nat.le_refl _, fun i _ hi => Lib.iterAt_other W k i s pos' (fun e => hi (by rw [e]))⟩ (fun r e => by cases e; exact ⟨hB, _, hk, rfl⟩)

end Go.Proofs.YtacmibkcnmaagaaDoor
