/-
  JourLast, as its row asks it. Conditions: each theorem's own premises.
-/
import Derived.Test.YtmpklljiddggpaaDoorQJpY
import Derived.Test.YtmpklljiddggpaaDoorQFrame9
namespace Go.Proofs.YtmpklljiddggpaaDoor
open Go.Shelf Go.RowKit Go.Lib Go.Sort

theorem jourLast_walk (A : Option Addr) (len cap : Nat) (l : List Int) (w : World) (hl : len = l.length) (hs : Ints w w.heap.size A l) (_ : ∀ z ∈ l, -9223372036854775808 ≤ z ∧ z ≤ 9223372036854775807) (hL : laidMetH Tryd.prog laid9 w) :
    Calls Tryd.prog 7 #[.slice A len cap] w (RetYes w) := by
  obtain ⟨aE, aS, aR, aC, aF, aM, he, hE, hT⟩ := nine_of hL
  subst hl
  exact jlast_any A cap l w aE aS aR aC aF aM he hE hT hs
end Go.Proofs.YtmpklljiddggpaaDoor
