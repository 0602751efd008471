/-
  The walk of the statements' own look at chapter 2's example. Conditions: none.
-/
import Derived.Test.YtollfedellhcoaaMkRead
import Derived.Test.YtollfedellhcoaaNumb
namespace Go.Proofs.Ytollfedellhcoaa
open Go.RowKit

theorem toList_mk (l : List UInt8) : (ByteArray.mk l.toArray).toList = l := by simp
theorem tx_mk0 : tx mk0 = [99, 98, 102, 50, 57, 99, 101, 52, 56, 52, 50, 50, 50, 51, 50, 53] := by decide +kernel

set_option maxRecDepth 100000 in
set_option maxHeartbeats 400000 in
theorem mfirst_any (w : World) : Calls Try.prog 7 #[] w (RetYes w) := by
  have HO := Lib.hid (fun W => of_any (ByteArray.mk #[]) W (by decide))
  have HT := Lib.hid (fun W => text_any mk0 W mk0_lt)
  rw [tx_mk0] at HT
  go_enter Try.func7, Try.ntmps7
  go_wp2_with fail
  refine (HO.out _).mono ?_
  rintro e w' ⟨rfl, rfl⟩
  have e0 : ((mk mk0 (ByteArray.mk #[]).data.toList : Nat) : Int) = 14695981039346656037 := by rfl
  rw [e0]
  go_wp2_with fail
  refine (HO.out _).mono ?_
  rintro e w' ⟨rfl, rfl⟩
  rw [e0]
  go_wp2_with fail
  refine (HT.out _).mono ?_
  rintro e w1 ⟨rfl, hB⟩
  go_wp2
  go_ret
  exact ⟨rfl, hB⟩
end Go.Proofs.Ytollfedellhcoaa
