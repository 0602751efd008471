/-
  JourNothing, as its row asks it. Conditions: each theorem's own premises.
-/
import Derived.Test.YtimicelafhmdjaaDoorQJpJ
import Derived.Test.YtimicelafhmdjaaDoorQDkFrame21
namespace Go.Proofs.YtimicelafhmdjaaDoor
open Go.Shelf Go.RowKit Go.Lib Go.Sort

theorem jourNothing_walk (key value : ByteArray) (what : Int) (w : World) (_ : key.size ≤ maxLen) (_ : value.size ≤ maxLen) (_ : (Lit.int .i64 what).wf = true) (hL : laidMetH Tryd.prog laid21 w) :
    Calls Tryd.prog 5 #[.string key, .string value, .int .i64 what] w (RetYes w) := by
  obtain ⟨ads, hS⟩ := sents_of hL
  have := nothing_any key.data.toList value.data.toList what w ads hS
  exact this
end Go.Proofs.YtimicelafhmdjaaDoor
