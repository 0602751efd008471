/-
  The walks of the kinds of runes: the program's and the document's. Conditions: none.
-/
import Derived.Test.YtacmibkcnmaagaaDoorQWords
import Derived.Test.YtacmibkcnmaagaaDoorQTxA
namespace Go.Proofs.YtacmibkcnmaagaaDoor
open Go.RowKit

/-- Is it a letter? -/
def letB (r : Int) : Bool := decide (97 ≤ r ∧ r ≤ 122 ∨ 945 ≤ r ∧ r ≤ 969)
/-- A digit? -/
def digB (r : Int) : Bool := decide (48 ≤ r ∧ r ≤ 57)
/-- A blank? -/
def blaB (r : Int) : Bool := decide (r = 32 ∨ r = 9 ∨ r = 10)
/-- It says so, and nothing has turned. -/
def RetKb (w : World) (b : Bool) (e : Ending) (w' : World) : Prop := e = .returned (.bool b) ∧ w = w'

theorem ret_bool {a b : Bool} (h : a = b) : Ending.returned (.bool a) = .returned (.bool b) := by rw [h]
theorem let_ways (r : Int) : (r < 97 ∧ letB r = false) ∨ (97 ≤ r ∧ r ≤ 122 ∧ letB r = true) ∨ (97 ≤ r ∧ 122 < r ∧ r < 945 ∧ letB r = false) ∨ (97 ≤ r ∧ 122 < r ∧ 945 ≤ r ∧ r ≤ 969 ∧ letB r = true) ∨ (97 ≤ r ∧ 122 < r ∧ 945 ≤ r ∧ 969 < r ∧ letB r = false) := by
  simp only [letB, decide_eq_true_eq, decide_eq_false_iff_not]
  omega
theorem dig_ways (r : Int) : (r < 48 ∧ digB r = false) ∨ (48 ≤ r ∧ r ≤ 57 ∧ digB r = true) ∨ (48 ≤ r ∧ 57 < r ∧ digB r = false) := by
  simp only [digB, decide_eq_true_eq, decide_eq_false_iff_not]
  omega
theorem bla_ways (r : Int) : ((r == 32) = true ∧ blaB r = true) ∨ ((r == 32) = false ∧ (r == 9) = true ∧ blaB r = true) ∨ ((r == 32) = false ∧ (r == 9) = false ∧ (r == 10) = true ∧ blaB r = true) ∨ ((r == 32) = false ∧ (r == 9) = false ∧ (r == 10) = false ∧ blaB r = false) := by
  simp only [blaB, decide_eq_true_eq, decide_eq_false_iff_not, beq_iff_eq, beq_eq_false_iff_ne]
  omega

set_option maxHeartbeats 400000 in
theorem letter_any (r : Int) (w : World) : Calls Tryd.prog 111 #[.int .i32 r] w (RetKb w (letB r)) := by
  rcases let_ways r with ⟨h1, h⟩ | ⟨h1, h2, h⟩ | ⟨h1, h2, h3, h⟩ | ⟨h1, h2, h3, h4, h⟩ | ⟨h1, h2, h3, h4, h⟩
  all_goals
    rw [h]
    clear h
    go_enter Tryd.func111, Tryd.ntmps111
    go_wp2
    go_ret
    first
      | exact ⟨rfl, rfl⟩
      | exact ⟨ret_bool (by simp; omega), rfl⟩
set_option maxHeartbeats 400000 in
theorem digit_any (r : Int) (w : World) : Calls Tryd.prog 112 #[.int .i32 r] w (RetKb w (digB r)) := by
  rcases dig_ways r with ⟨h1, h⟩ | ⟨h1, h2, h⟩ | ⟨h1, h2, h⟩
  all_goals
    rw [h]
    clear h
    go_enter Tryd.func112, Tryd.ntmps112
    go_wp2
    go_ret
    first
      | exact ⟨rfl, rfl⟩
      | exact ⟨ret_bool (by simp; omega), rfl⟩
set_option maxHeartbeats 400000 in
theorem rletter_any (r : Int) (w : World) : Calls Tryd.prog 41 #[.int .i32 r] w (RetKb w (letB r)) := by
  rcases let_ways r with ⟨h1, h⟩ | ⟨h1, h2, h⟩ | ⟨h1, h2, h3, h⟩ | ⟨h1, h2, h3, h4, h⟩ | ⟨h1, h2, h3, h4, h⟩
  all_goals
    rw [h]
    clear h
    go_enter Tryd.func41, Tryd.ntmps41
    go_wp2
    go_ret
    first
      | exact ⟨rfl, rfl⟩
      | exact ⟨ret_bool (by simp; omega), rfl⟩
set_option maxHeartbeats 400000 in
theorem rdigit_any (r : Int) (w : World) : Calls Tryd.prog 43 #[.int .i32 r] w (RetKb w (digB r)) := by
  rcases dig_ways r with ⟨h1, h⟩ | ⟨h1, h2, h⟩ | ⟨h1, h2, h⟩
  all_goals
    rw [h]
    clear h
    go_enter Tryd.func43, Tryd.ntmps43
    go_wp2
    go_ret
    first
      | exact ⟨rfl, rfl⟩
      | exact ⟨ret_bool (by simp; omega), rfl⟩
end Go.Proofs.YtacmibkcnmaagaaDoor
