/-
  The statements' walks as their rows ask for them. Conditions: the sentinel errors lie where the program's text lays them.
-/
import Derived.Test.YtehfcobceeeloaaDoorFrame21
import Derived.Test.YtehfcobceeeloaaDoorLawLengths
namespace Go.Proofs.YtehfcobceeeloaaDoor
open Go.RowKit

theorem wireLengths_walk (a0 a1 : Int) (w : World) (_w0 : (Lit.int .i64 a0).wf = true) (_w1 : (Lit.int .i64 a1).wf = true) (hL : laidMetH Tryd.prog laid21 w) :
    Calls Tryd.prog 7 #[.int .i64 a0, .int .i64 a1] w (RetYes w) := by
  obtain ⟨ads, hS⟩ := sents_of hL
  exact lengths_any a0 a1 w ads hS
end Go.Proofs.YtehfcobceeeloaaDoor
