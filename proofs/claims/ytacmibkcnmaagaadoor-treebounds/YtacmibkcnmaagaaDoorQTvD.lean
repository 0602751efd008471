/-
  The walks of tree's operands, validN, partError. Conditions: each theorem's own premises.
-/
import Derived.Test.YtacmibkcnmaagaaDoorQTvC
import Derived.Test.YtacmibkcnmaagaaDoorQDkSee
namespace Go.Proofs.YtacmibkcnmaagaaDoor
open Go.RowKit Go.Lib
attribute [local go_sem] Oper.semAt_some

/-- The errors that tree tells, as they stand in memory: 1 of a shape, 2 too many, 7 too deep, 8 of a name. -/
structure Te (w : World) (er : Nat → Addr) : Prop where
  shape : w.cell? ⟨3, 0, none⟩ = some (.iface 188 (.pointer (some (er 1))))
  many : w.cell? ⟨1, 0, none⟩ = some (.iface 188 (.pointer (some (er 2))))
  deep : w.cell? ⟨2, 0, none⟩ = some (.iface 188 (.pointer (some (er 7))))
  name : w.cell? ⟨0, 0, none⟩ = some (.iface 188 (.pointer (some (er 8))))
theorem Te.below {w w' : World} {er : Nat → Addr} (h : Te w er) (hb : Below w.heap.size w w') : Te w' er :=
  ⟨(hb.cell (World.block_lt_of_cell? w _ h.shape)).trans h.shape, (hb.cell (World.block_lt_of_cell? w _ h.many)).trans h.many, (hb.cell (World.block_lt_of_cell? w _ h.deep)).trans h.deep, (hb.cell (World.block_lt_of_cell? w _ h.name)).trans h.name⟩
/-- An error as a value: none, or one of them. -/
def erO (er : Nat → Addr) : Option Nat → Value
  | none => .nilIface
  | some k => .iface 188 (.pointer (some (er k)))
/-- How many operands. -/
def opN (op : Int) : Int := if op < 1 ∨ 25 < op then -1 else if op ≤ 3 then 0 else if op = 4 ∨ op = 5 ∨ op = 23 ∨ op = 24 then 1 else if op = 20 then 3 else 2
set_option maxRecDepth 100000 in
set_option maxHeartbeats 2000000 in
theorem operands_any0 (op : Int) (w : World) : Calls Tryd.prog 86 #[.int .i64 op] w fun e w' => e = .returned (.int .i64 (opN op)) ∧ w' = w := by
  by_cases h0 : op < 1 ∨ 25 < op
  · have H : Hid (opN op = -1) := Lib.hid (by unfold opN; rw [if_pos h0])
    have q1 : (op == 1) = false := beq_eq_false_iff_ne.2 (by omega)
    have q2 : (op == 2) = false := beq_eq_false_iff_ne.2 (by omega)
    have q3 : (op == 3) = false := beq_eq_false_iff_ne.2 (by omega)
    have q4 : (op == 4) = false := beq_eq_false_iff_ne.2 (by omega)
    have q5 : (op == 5) = false := beq_eq_false_iff_ne.2 (by omega)
    have q6 : (op == 6) = false := beq_eq_false_iff_ne.2 (by omega)
    have q7 : (op == 7) = false := beq_eq_false_iff_ne.2 (by omega)
    have q8 : (op == 8) = false := beq_eq_false_iff_ne.2 (by omega)
    have q9 : (op == 9) = false := beq_eq_false_iff_ne.2 (by omega)
    have q10 : (op == 10) = false := beq_eq_false_iff_ne.2 (by omega)
    have q11 : (op == 11) = false := beq_eq_false_iff_ne.2 (by omega)
    have q12 : (op == 12) = false := beq_eq_false_iff_ne.2 (by omega)
    have q13 : (op == 13) = false := beq_eq_false_iff_ne.2 (by omega)
    have q14 : (op == 14) = false := beq_eq_false_iff_ne.2 (by omega)
    have q15 : (op == 15) = false := beq_eq_false_iff_ne.2 (by omega)
    have q16 : (op == 16) = false := beq_eq_false_iff_ne.2 (by omega)
    have q17 : (op == 17) = false := beq_eq_false_iff_ne.2 (by omega)
    have q18 : (op == 18) = false := beq_eq_false_iff_ne.2 (by omega)
    have q19 : (op == 19) = false := beq_eq_false_iff_ne.2 (by omega)
    have q20 : (op == 20) = false := beq_eq_false_iff_ne.2 (by omega)
    have q21 : (op == 21) = false := beq_eq_false_iff_ne.2 (by omega)
    have q22 : (op == 22) = false := beq_eq_false_iff_ne.2 (by omega)
    have q23 : (op == 23) = false := beq_eq_false_iff_ne.2 (by omega)
    have q24 : (op == 24) = false := beq_eq_false_iff_ne.2 (by omega)
    have q25 : (op == 25) = false := beq_eq_false_iff_ne.2 (by omega)
    clear h0
    go_enter Tryd.func86, Tryd.ntmps86
    go_wp2
    go_ret
    exact ⟨by rw [H.out]; rfl, rfl⟩
  · rcases (show op = 1 ∨ op = 2 ∨ op = 3 ∨ op = 4 ∨ op = 5 ∨ op = 6 ∨ op = 7 ∨ op = 8 ∨ op = 9 ∨ op = 10 ∨ op = 11 ∨ op = 12 ∨ op = 13 ∨ op = 14 ∨ op = 15 ∨ op = 16 ∨ op = 17 ∨ op = 18 ∨ op = 19 ∨ op = 20 ∨ op = 21 ∨ op = 22 ∨ op = 23 ∨ op = 24 ∨ op = 25 by omega) with rfl | rfl | rfl | rfl | rfl | rfl | rfl | rfl | rfl | rfl | rfl | rfl | rfl | rfl | rfl | rfl | rfl | rfl | rfl | rfl | rfl | rfl | rfl | rfl | rfl
    all_goals
      go_enter Tryd.func86, Tryd.ntmps86
      go_wp2
      go_ret
      exact ⟨rfl, rfl⟩
/-- May a part have that number? -/
def vN (op n : Int) : Bool := if op = 1 then decide (0 ≤ n) else if op = 2 ∨ op = 24 then n == 0 || n == 1 else n == 0
set_option maxRecDepth 100000 in
set_option maxHeartbeats 1000000 in
theorem validN_any (e : Ex) (w : World) : Calls Tryd.prog 87 #[e.val] w fun r w' => r = .returned (.bool (vN e.op e.n)) ∧ Below w.heap.size w w' := by
  have hv : vN e.op e.n = if e.op = 1 then decide (0 ≤ e.n) else if e.op = 2 ∨ e.op = 24 then e.n == 0 || e.n == 1 else e.n == 0 := rfl
  unfold Ex.val
  generalize e.op = op at *
  generalize e.n = n at *
  have HB := Lib.hid ((Below.refl w.heap.size w).alloc (Nat.le_refl _) (.cells #[.int .i64 op, .int .i64 e.pos, .int .i64 n, .string ⟨e.name.toArray⟩, .slice e.A e.l.length e.c] 34))
  by_cases h1 : op = 1
  · rw [if_pos h1] at hv
    have HV := Lib.hid hv
    subst h1
    clear hv
    go_enter Tryd.func87, Tryd.ntmps87
    go_wp2
    go_ret
    exact ⟨by rw [HV.out]; rfl, HB.out⟩
  rw [if_neg h1] at hv
  by_cases h2 : op = 2
  · rw [if_pos (Or.inl h2)] at hv
    have HV := Lib.hid hv
    subst h2
    clear hv h1
    cases h0 : n == 0
    · cases h9 : n == 1
      all_goals
        go_enter Tryd.func87, Tryd.ntmps87
        go_wp2
        go_ret
        exact ⟨by rw [HV.out, h0, h9]; rfl, HB.out⟩
    · go_enter Tryd.func87, Tryd.ntmps87
      go_wp2
      go_ret
      exact ⟨by rw [HV.out, h0]; rfl, HB.out⟩
  by_cases h3 : op = 24
  · rw [if_pos (Or.inr h3)] at hv
    have HV := Lib.hid hv
    subst h3
    clear hv h1 h2
    cases h0 : n == 0
    · cases h9 : n == 1
      all_goals
        go_enter Tryd.func87, Tryd.ntmps87
        go_wp2
        go_ret
        exact ⟨by rw [HV.out, h0, h9]; rfl, HB.out⟩
    · go_enter Tryd.func87, Tryd.ntmps87
      go_wp2
      go_ret
      exact ⟨by rw [HV.out, h0]; rfl, HB.out⟩
  rw [if_neg (fun h => h.elim h2 h3)] at hv
  have HV := Lib.hid hv
  have q1 : (op == 1) = false := beq_eq_false_iff_ne.2 h1
  have q2 : (op == 2) = false := beq_eq_false_iff_ne.2 h2
  have q3 : (op == 24) = false := beq_eq_false_iff_ne.2 h3
  clear hv h1 h2 h3
  go_enter Tryd.func87, Tryd.ntmps87
  go_wp2
  go_ret
  exact ⟨by rw [HV.out]; rfl, HB.out⟩
/-- What is amiss with a part. -/
def partE (e : Ex) : Option Nat :=
  if (e.l.length : Int) ≠ opN e.op ∨ vN e.op e.n = false ∨ (e.name ≠ [] ∧ hasN e.op = false) then some 1 else if hasN e.op = true ∧ badN e.name = true then some 8 else none
end Go.Proofs.YtacmibkcnmaagaaDoor
