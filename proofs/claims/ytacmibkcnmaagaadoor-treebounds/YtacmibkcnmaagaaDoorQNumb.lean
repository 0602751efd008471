/-
  The walk of the statements' helper Number. Conditions: the theorem's own premises.
-/
import Derived.Test.YtacmibkcnmaagaaDoorQWords
namespace Go.Proofs.YtacmibkcnmaagaaDoor
open Go.RowKit

theorem tmod_emod (n b : Int) (hb : 0 < b) : n % b = if n.tmod b < 0 then n.tmod b + b else n.tmod b := by
  rw [Int.tmod_eq_emod]
  have h1 := Int.emod_nonneg n (by omega : b ≠ 0)
  have h2 := Int.emod_lt_of_pos n hb
  have e : (b.natAbs : Int) = b := by omega
  split <;> rename_i h <;> split <;> omega

set_option maxHeartbeats 400000 in
theorem number_any (n b : Int) (w : World) (hb : 0 < b) (hb2 : b ≤ 4294967296) :
    Calls Tryd.prog 7 #[.int .i64 n, .int .i64 b] w fun e w' => e = .returned (.int .i64 (n % b)) ∧ w = w' := by
  have e := tmod_emod n b hb
  have h1 := Int.tmod_lt_of_pos n hb
  have h3 := Int.emod_nonneg n (by omega : b ≠ 0)
  have hne : (b == 0) = false := beq_eq_false_iff_ne.2 (by omega)
  by_cases h : n.tmod b < 0
  · rw [if_pos h] at e
    have h2 : -b ≤ n.tmod b := by omega
    have H := Lib.hid e
    clear e h3
    go_enter Tryd.func7, Tryd.ntmps7
    go_wp2
    go_ret
    exact ⟨ret_int H.out.symm, rfl⟩
  · rw [if_neg h] at e
    have H := Lib.hid e
    clear e h3
    go_enter Tryd.func7, Tryd.ntmps7
    go_wp2
    go_ret
    exact ⟨ret_int H.out.symm, rfl⟩
end Go.Proofs.YtacmibkcnmaagaaDoor
