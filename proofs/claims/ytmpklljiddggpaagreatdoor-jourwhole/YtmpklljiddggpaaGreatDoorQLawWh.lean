/-
  JourWhole, as its row asks it. Conditions: each theorem's own premises.
-/
import Derived.Test.YtmpklljiddggpaaGreatDoorQJqD
import Derived.Test.YtmpklljiddggpaaGreatDoorQFrame9
namespace Go.Proofs.YtmpklljiddggpaaGreatDoor
open Go.Shelf Go.RowKit Go.Lib Go.Sort

theorem jourWhole_walk (n arm : Int) (A : Option Addr) (len cap : Nat) (zs : List Int) (more : Int) (w : World) (_ : (Lit.int .i64 n).wf = true) (_ : (Lit.int .i64 arm).wf = true) (hl : len = zs.length) (hs : Ints w w.heap.size A zs) (_ : ∀ z ∈ zs, -9223372036854775808 ≤ z ∧ z ≤ 9223372036854775807) (_ : (Lit.int .i64 more).wf = true) (hL : laidMetH Tryz.prog laid9 w) :
    Calls Tryz.prog 4 #[.int .i64 n, .int .i64 arm, .slice A len cap, .int .i64 more] w (RetYes w) := by
  obtain ⟨aE, aS, aR, aC, aF, aM, he, hE, hT⟩ := nine_of hL
  subst hl
  exact jwhole_any n arm A cap zs more w aE aS aR aC aF aM he hE hT hs
end Go.Proofs.YtmpklljiddggpaaGreatDoor
