/-
  The walk of sameToken at one token. Conditions: none.
-/
import Derived.Test.YtndagbmcdpafjaaDoorQLsE
namespace Go.Proofs.YtndagbmcdpafjaaDoor
open Go.Shelf Go.RowKit Go.Lib

set_option maxRecDepth 100000 in
set_option maxHeartbeats 1000000 in
theorem sameToken_eq (t : Tk) (w : World) : Calls Tryd.prog 12 #[tkV t, tkV t] w (RetN w true) := by
  obtain ⟨kind, pos, text, n⟩ := t
  dsimp only [tkV]
  obtain ⟨X, hX⟩ : ∃ X : ByteArray, X = ⟨text.toArray⟩ := ⟨_, rfl⟩
  rw [← hX]
  clear hX
  go_enter Tryd.func12, Tryd.ntmps12
  go_wp2
  go_ret
  exact ⟨rfl, ((Below.refl _ _).alloc (Nat.le_refl _) _).alloc (by simp) _⟩
end Go.Proofs.YtndagbmcdpafjaaDoor
