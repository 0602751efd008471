/-
  The walk of the statements' Num: a number as its digits. Conditions: each theorem's own premises.
-/
import Derived.Test.YtacmibkcnmaagaaDoorQWords
import Derived.Test.YtacmibkcnmaagaaDoorQShi
import Derived.Lib.AppendIntMem
import Derived.Lib.ItoaLen
namespace Go.Proofs.YtacmibkcnmaagaaDoor
open Go.RowKit

/-- The library's table of the powers of ten stands in memory. -/
def Tab (w : World) : Prop := Lib.TabIs Tryd.prog w "internal/strconv.uint64pow10" .u64 Lib.pow10Tab
theorem Tab.below {w w' : World} (h : Tab w) (hb : Below w.heap.size w w') : Tab w' := Lib.tabBelow_of_tabIs h w' hb
/-- A number's digits. -/
def dig (n : Nat) : List UInt8 := Lib.decDigits n
theorem dig_length {n : Nat} (h : n ≤ 1000000000) : (dig n).length ≤ 21 := by
  have := Lib.itoa_length_le (n : Int) (by omega) (by omega)
  rw [Lib.itoa_nonneg] at this
  exact this
set_option maxHeartbeats 400000 in
theorem num_any' (n : Nat) (w : World) (hn : n ≤ 1000000000) (ht : Tab w) :
    Calls Tryd.prog 8 #[.int .i64 (n : Int)] w fun e w' => e = .returned (.string ⟨(dig n).toArray⟩) ∧ Below w.heap.size w w' := by
  have hi : Calls Tryd.prog 29 #[.int .i64 (n : Int)] w fun e w' => e = .returned (.string ⟨(Lib.itoa (n : Int)).toArray⟩) ∧ ∃ k os, w' = Sort.grow (w.drewN k) os := Go.Proofs.Any.strconv_Itoa Tryd.laysItoa (n : Int) (by omega) (by omega) w ht
  rw [Lib.itoa_nonneg] at hi
  clear ht
  go_enter Tryd.func8, Tryd.ntmps8
  go_wp2_with fail
  refine hi.mono ?_
  rintro e w1 ⟨rfl, k, os, hw⟩
  have HB := Lib.hid (show Below w.heap.size w w1 by rw [hw]; exact Lib.below_grow _ w (Nat.le_refl _) k os)
  clear hw hi
  go_wp2
  go_ret
  exact ⟨rfl, HB.out⟩
end Go.Proofs.YtacmibkcnmaagaaDoor
