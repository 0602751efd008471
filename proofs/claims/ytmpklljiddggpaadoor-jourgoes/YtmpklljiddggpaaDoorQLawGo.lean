/-
  JourGoes, as its row asks it. Conditions: each theorem's own premises.
-/
import Derived.Test.YtmpklljiddggpaaDoorQJpV
import Derived.Test.YtmpklljiddggpaaDoorQFrame9
namespace Go.Proofs.YtmpklljiddggpaaDoor
open Go.Shelf Go.RowKit Go.Lib Go.Sort

theorem jourGoes_walk (n long : Int) (w : World) (_ : (Lit.int .i64 n).wf = true) (_ : (Lit.int .i64 long).wf = true) (hL : laidMetH Tryd.prog laid9 w) :
    Calls Tryd.prog 8 #[.int .i64 n, .int .i64 long] w (RetYes w) := by
  obtain ⟨aE, aS, aR, aC, aF, aM, he, hE, hT⟩ := nine_of hL
  exact jgoes_any n long w aE aS aR aC aF aM he hE hT
end Go.Proofs.YtmpklljiddggpaaDoor
