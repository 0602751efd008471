/-
  DiskPlays at whatever input. Conditions: the theorem's own premises.
-/
import Derived.Test.YtgombgkfocpacaaDoorLawPl
import Derived.Test.YtgombgkfocpacaaDoorDkFrameD
namespace Go.Proofs.YtgombgkfocpacaaDoor
open Go.RowKit
theorem diskPlays_walk (a : Int) (A : Option Addr) (n c : Nat) (L : List DoV) (w : World) (_ : (Lit.int .i64 a).wf = true) (hn : n = L.length) (hD : Dos w A L) (hL : laidMetH Tryd.prog laid21 w) :
    Calls Tryd.prog 3 #[.int .i64 a, .slice A n c] w (RetYes w) := by
  obtain ⟨ads, hS⟩ := sents_of hL
  exact diskPlays_any a A n c L w ads hS hn hD
end Go.Proofs.YtgombgkfocpacaaDoor
