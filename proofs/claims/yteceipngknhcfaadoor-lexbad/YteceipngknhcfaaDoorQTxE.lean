/-
  The walks of keyword and Name. Conditions: none.
-/
import Derived.Test.YteceipngknhcfaaDoorQTxD
namespace Go.Proofs.YteceipngknhcfaaDoor
open Go.Shelf Go.RowKit Go.Lib

/-- The keywords. -/
def kws : List (List UInt8) := [[97, 110, 100], [98, 111, 111, 108], [101, 108, 115, 101], [101, 118, 101, 114, 121], [102, 97, 108, 115, 101], [102, 98, 121], [105, 102], [105, 110, 116], [108, 101, 116], [109, 101, 114, 103, 101], [109, 111, 100], [110, 111, 100, 101], [110, 111, 116], [111, 114], [112, 114, 101], [114, 101, 116, 117, 114, 110, 115], [116, 101, 108], [116, 104, 101, 110], [116, 114, 117, 101], [118, 97, 114], [119, 104, 101, 110], [120, 111, 114]]
/-- Is it one? -/
def kwB (s : ByteArray) : Bool := decide (s.data.toList ∈ kws)
theorem of_bytes {s : ByteArray} {l : List UInt8} (h : s.data.toList = l) : s = ⟨l.toArray⟩ := by
  obtain ⟨d⟩ := s
  congr 1
  simpa using congrArg List.toArray h
theorem bytes_ne {s : ByteArray} {l : List UInt8} (h : ¬ s.data.toList = l) : (s.toList == l) = false := by
  rw [ByteArray.toList_eq]
  exact beq_eq_false_iff_ne.2 h

/-- May a rune stand in a name (first: at its beginning)? -/
def ok1 (later : Bool) (r : Int) : Bool := letB r || (later && (digB r || r == 95))
/-- The runes of a name. -/
def nmR : List (Nat × Nat) → Bool
  | [] => true
  | p :: t => ok1 false p.1 && t.all fun q => ok1 true q.1
/-- Is it a name? -/
def nameB (s : ByteArray) : Bool := decide (s.size ≠ 0) && (decide (s.size ≤ 24) && (!kwB s && nmR (pcs s.data.toList)))

/-- Where Name's loop stands. -/
def NmRel (w : World) (s : ByteArray) (wr : World) : Prop :=
  ∃ k : Nat, k ≤ s.size ∧ wr.heap[w.heap.size]? = some (.stringIter s k) ∧ Below w.heap.size w wr ∧ (k ≠ 0 → nmR (pcs s.data.toList) = (pcs (s.data.toList.drop k)).all fun q => ok1 true q.1)
theorem nm_step {s : ByteArray} {k : Nat} (hp : k < s.size) (h : k ≠ 0 → nmR (pcs s.data.toList) = (pcs (s.data.toList.drop k)).all fun q => ok1 true q.1) :
    nmR (pcs s.data.toList) = (ok1 (decide (k ≠ 0)) ((Utf8.decode s k).1 : Nat) && (pcs (s.data.toList.drop (k + (Utf8.decode s k).2))).all fun q => ok1 true q.1) := by
  have hd := pcs_drop s.data.toList k (by simpa using hp)
  rw [← decode_dec] at hd
  by_cases hk : k = 0
  · subst hk
    rw [List.drop_zero] at hd
    rw [hd]
    rfl
  · rw [h hk, hd]
    simp [hk]
/-- It says so, and nothing old has turned. -/
def RetN (w : World) (b : Bool) (e : Ending) (w' : World) : Prop := e = .returned (.bool b) ∧ Below w.heap.size w w'

end Go.Proofs.YteceipngknhcfaaDoor
