/-
  The text of an expression, as a list of bytes. Conditions: none.
-/
import Derived.Test.YtpfehddkaapjiaaDoorQTrA
import Derived.Lib.ItoaLen
namespace Go.Proofs.YtpfehddkaapjiaaDoor
open Go.RowKit Go.Lib

/-- The texts ahead of operands, by operator and place. -/
def befT : List (List (List UInt8)) := [[[], [], []], [[], [], []], [[], [], []], [[], [], []], [[45], [], []], [[110, 111, 116, 32], [], []], [[], [32, 43, 32], []], [[], [32, 45, 32], []], [[], [32, 42, 32], []], [[], [32, 47, 32], []], [[], [32, 109, 111, 100, 32], []], [[], [32, 97, 110, 100, 32], []], [[], [32, 111, 114, 32], []], [[], [32, 120, 111, 114, 32], []], [[], [32, 61, 32], []], [[], [32, 60, 62, 32], []], [[], [32, 60, 32], []], [[], [32, 60, 61, 32], []], [[], [32, 62, 32], []], [[], [32, 62, 61, 32], []], [[105, 102, 32], [32, 116, 104, 101, 110, 32], [32, 101, 108, 115, 101, 32]], [[], [32, 102, 98, 121, 32], []], [[], [32, 45, 62, 32], []], [[112, 114, 101, 32], [], []], [[], [], []], [[44, 32], [44, 32], []]]
def bef (op : Int) (i : Nat) : List UInt8 := (befT.getD op.toNat []).getD i []
/-- What needs no brackets. -/
def alone (op : Int) : Bool := op == 1 || op == 2 || op == 3 || op == 25
/-- In brackets. -/
def brk (s : List UInt8) : List UInt8 := 40 :: (s ++ [41])
/-- What stands behind what has a clock. -/
def clkT (name : List UInt8) (on : Bool) : List UInt8 := if on then [32, 119, 104, 101, 110, 32] ++ name else [32, 119, 104, 101, 110, 32, 110, 111, 116, 32] ++ name
mutual
/-- The text. -/
def Ex.shw : Ex → List UInt8
  | .mk op _ n name _ _ l =>
    if op = 1 then Lib.itoa n
    else if op = 2 then (if n = 1 then [116, 114, 117, 101] else [102, 97, 108, 115, 101])
    else if op = 3 then name
    else if op = 24 then shwL op 0 l ++ clkT name (decide (n = 1))
    else if op = 25 then [109, 101, 114, 103, 101, 40] ++ name ++ shwL op 0 l ++ [41]
    else shwL op 0 l
/-- The operands' texts from a place on, each behind its own. -/
def shwL (op : Int) : Nat → List Ex → List UInt8
  | _, [] => []
  | i, e :: r => if i < 3 ∧ 0 ≤ op ∧ op < 26 then bef op i ++ (if op = 25 ∨ alone e.op = true then e.shw else brk e.shw) ++ shwL op (i + 1) r else []
end
theorem Ex.shw_eq (e : Ex) : e.shw = (if e.op = 1 then Lib.itoa e.n
    else if e.op = 2 then (if e.n = 1 then [116, 114, 117, 101] else [102, 97, 108, 115, 101])
    else if e.op = 3 then e.name
    else if e.op = 24 then shwL e.op 0 e.l ++ clkT e.name (decide (e.n = 1))
    else if e.op = 25 then [109, 101, 114, 103, 101, 40] ++ e.name ++ shwL e.op 0 e.l ++ [41]
    else shwL e.op 0 e.l) := by
  obtain ⟨op, pos, n, name, A, c, l⟩ := e
  rfl
theorem shwL_out (op : Int) (i : Nat) (l : List Ex) (h : ¬ (i < 3 ∧ 0 ≤ op ∧ op < 26)) : shwL op i l = [] := by
  cases l with
  | nil => rfl
  | cons e r => rw [shwL, if_neg h]
theorem shwL_at (op : Int) (i : Nat) (l : List Ex) (h : i < 3 ∧ 0 ≤ op ∧ op < 26) (hi : i < l.length) : shwL op i (l.drop i) = bef op i ++ (if op = 25 ∨ alone l[i].op = true then l[i].shw else brk l[i].shw) ++ shwL op (i + 1) (l.drop (i + 1)) := by
  rw [List.drop_eq_getElem_cons hi, shwL, if_pos h]
theorem shwL_end (op : Int) (i : Nat) (l : List Ex) (hi : l.length ≤ i) : shwL op i (l.drop i) = [] := by
  rw [List.drop_eq_nil_of_le hi]
  rfl
end Go.Proofs.YtpfehddkaapjiaaDoor
