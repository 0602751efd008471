/-
  JourMany, as its row asks it. Conditions: each theorem's own premises.
-/
import Derived.Test.YtmpklljiddggpaaDoorQJpW
import Derived.Test.YtmpklljiddggpaaDoorQFrame24
namespace Go.Proofs.YtmpklljiddggpaaDoor
open Go.Shelf Go.RowKit Go.Lib Go.Sort

theorem jourMany_walk (n : Int) (w : World) (_ : (Lit.int .i64 n).wf = true) (hL : laidMetH Tryd.prog laid24 w) :
    Calls Tryd.prog 6 #[.int .i64 n] w (RetYes w) := by
  obtain ⟨ads, hS, hT⟩ := all_of hL
  exact jmany_any n w ads hS hT
end Go.Proofs.YtmpklljiddggpaaDoor
