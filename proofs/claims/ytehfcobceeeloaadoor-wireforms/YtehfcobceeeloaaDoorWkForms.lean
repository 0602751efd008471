/-
  The statements' walks as their rows ask for them. Conditions: the sentinel errors lie where the program's text lays them.
-/
import Derived.Test.YtehfcobceeeloaaDoorFrame21
import Derived.Test.YtehfcobceeeloaaDoorLawForms
namespace Go.Proofs.YtehfcobceeeloaaDoor
open Go.RowKit

theorem wireForms_walk (a0 a1 : Int) (w : World) (w0 : (Lit.int .i64 a0).wf = true) (w1 : (Lit.int .i64 a1).wf = true) (hL : laidMetH Tryd.prog laid21 w) :
    Calls Tryd.prog 4 #[.int .i64 a0, .int .i64 a1] w (RetYes w) := by
  obtain ⟨ads, hS⟩ := sents_of hL
  have h0 := wf_i64 w0
  have h1 := wf_i64 w1
  exact forms_any a0 a1 w ads hS h0.1 h0.2 h1.1 h1.2
end Go.Proofs.YtehfcobceeeloaaDoor
