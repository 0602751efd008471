/-
  What a chain of sums, of fby, of pre and of merges uses. Conditions: none.
-/
import Derived.Test.YtpfehddkaapjiaaDoorQTrN
namespace Go.Proofs.YtpfehddkaapjiaaDoor
open Go.RowKit Go.Lib

/-- Where TreeLate's loop stands: what the expression uses, of all parts and of those that stand not late; its size. -/
structure LtS (e : Ex) (deep now : List (List UInt8)) (late : Bool) (i : Nat) : Prop where
  md : ∀ x, x ∈ e.uses true ↔ x ∈ deep
  mn : ∀ x, x ∈ e.uses false ↔ x ∈ now
  any : late = true ∨ now ≠ []
  dep : e.dep ≤ 2 * i + 1
  cnt : e.cnt + 2 ≤ 2 ^ (min i 7 + 2) + 2 * (i - 7)
  slim : e.slim 100000 = true
theorem uses_var (late : Bool) (pos n : Int) (s : List UInt8) (A : Option Addr) (c : Nat) : (Ex.mk 3 pos n s A c []).uses late = [s] := by simp [Ex.uses, usesL, hasN]
theorem LtS.start (s : List UInt8) : LtS (.mk 3 0 0 s none 0 []) [s] [s] false 0 :=
  ⟨fun x => by rw [uses_var], fun x => by rw [uses_var], .inr (by simp), by simp [Ex.dep, depL], by simp [Ex.cnt, cntL], by simp [Ex.slim, slimL]⟩
theorem pow_dbl (i : Nat) (h : i ≤ 6) : 2 ^ (min (i + 1) 7 + 2) = 2 * 2 ^ (min i 7 + 2) := by
  rw [show min (i + 1) 7 + 2 = (min i 7 + 2) + 1 by omega, Nat.pow_succ]
  omega
theorem pow_min (i : Nat) : 2 ^ (min i 7 + 2) + 2 * (i - 7) + 2 ≤ 2 ^ (min (i + 1) 7 + 2) + 2 * (i + 1 - 7) := by
  rcases Nat.lt_or_ge 6 i with h | h
  · rw [show min (i + 1) 7 = 7 by omega, show min i 7 = 7 by omega]
    omega
  · have := pow_dbl i h
    have : 2 ^ 2 ≤ 2 ^ (min i 7 + 2) := Nat.pow_le_pow_right (by omega) (by omega)
    omega
variable {e : Ex} {deep now : List (List UInt8)} {late : Bool} {i : Nat} {op : Int} {s : List UInt8} {A : Option Addr} {c : Nat}
/-- A sum of a variable and it. -/
theorem LtS.add (h : LtS e deep now late i) (hop : hasN op = false) (h1 : op ≠ 23) (h2 : op ≠ 21) : LtS (.mk op 0 0 [] A c [.mk 3 0 0 s none 0 [], e]) (deep ++ [s]) (now ++ [s]) late (i + 1) := by
  have hp := pow_min i
  refine ⟨fun x => ?_, fun x => ?_, h.any.imp id (fun h => by simp), ?_, ?_, ?_⟩
  · have := h.md x
    simp [Ex.uses, usesL, hop, this, or_comm]
    simp [hasN, or_comm]
  · have := h.mn x
    simp [Ex.uses, usesL, hop, lateN, h1, h2]
    simp [hasN, this, or_comm]
  · have := h.dep; simp only [Ex.dep, depL]; omega
  · have := h.cnt; simp only [Ex.cnt, cntL]; omega
  · simp [Ex.slim, slimL, h.slim]
/-- A variable, and then it. -/
theorem LtS.fby1 (h : LtS e deep now late i) : LtS (.mk 21 0 0 [] A c [.mk 3 0 0 s none 0 [], e]) (deep ++ [s]) [s] true (i + 1) := by
  have hp := pow_min i
  refine ⟨fun x => ?_, fun x => ?_, .inl rfl, ?_, ?_, ?_⟩
  · have := h.md x
    simp [Ex.uses, usesL, hasN, this, or_comm]
  · simp [Ex.uses, usesL, hasN, lateN]
  · have := h.dep; simp only [Ex.dep, depL]; omega
  · have := h.cnt; simp only [Ex.cnt, cntL]; omega
  · simp [Ex.slim, slimL, h.slim]
/-- It, and then a variable. -/
theorem LtS.fby2 (h : LtS e deep now late i) : LtS (.mk 21 0 0 [] A c [e, .mk 3 0 0 s none 0 []]) (deep ++ [s]) now late (i + 1) := by
  have hp := pow_min i
  refine ⟨fun x => ?_, fun x => ?_, h.any, ?_, ?_, ?_⟩
  · have := h.md x
    simp [Ex.uses, usesL, hasN, this]
  · have := h.mn x
    simp [Ex.uses, usesL, hasN, lateN, this]
  · have := h.dep; simp only [Ex.dep, depL]; omega
  · have := h.cnt; simp only [Ex.cnt, cntL]; omega
  · simp [Ex.slim, slimL, h.slim]
/-- Of an instant before, where a clock is on. -/
theorem LtS.pre (h : LtS e deep now late i) {A2 : Option Addr} {c2 : Nat} : LtS (.mk 23 0 0 [] A c [.mk 24 0 0 s A2 c2 [e]]) (deep ++ [s]) [] true (i + 1) := by
  have hp := pow_min i
  refine ⟨fun x => ?_, fun x => ?_, .inl rfl, ?_, ?_, ?_⟩
  · have := h.md x
    simp [Ex.uses, usesL, hasN, this, or_comm]
  · simp [Ex.uses, usesL, hasN, lateN]
  · have := h.dep; simp only [Ex.dep, depL]; omega
  · have := h.cnt; simp only [Ex.cnt, cntL]; omega
  · simp [Ex.slim, slimL, h.slim]
/-- A merge of it with itself. -/
theorem LtS.merge (h : LtS e deep now late i) (hi : i ≤ 6) : LtS (.mk 25 0 0 s A c [e, e]) (deep ++ [s]) (now ++ [s]) late (i + 1) := by
  have hp := pow_dbl i hi
  have hq : 1 ≤ 2 ^ (min i 7 + 2) := Nat.one_le_two_pow
  refine ⟨fun x => ?_, fun x => ?_, h.any.imp id (fun h => by simp), ?_, ?_, ?_⟩
  · have := h.md x
    simp [Ex.uses, usesL, hasN, this, or_comm]
  · have := h.mn x
    simp [Ex.uses, usesL, hasN, lateN, this, or_comm]
  · have := h.dep; simp only [Ex.dep, depL]; omega
  · have := h.cnt; simp only [Ex.cnt, cntL]; omega
  · simp [Ex.slim, slimL, h.slim]
end Go.Proofs.YtpfehddkaapjiaaDoor
