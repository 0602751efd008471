/-
  JourRoom, as its row asks it. Conditions: each theorem's own premises.
-/
import Derived.Test.YtmpklljiddggpaaDoorQJpP
import Derived.Test.YtmpklljiddggpaaDoorQDkFrame21
namespace Go.Proofs.YtmpklljiddggpaaDoor
open Go.Shelf Go.RowKit Go.Lib Go.Sort

theorem jourRoom_walk (sectors : Int) (A : Option Addr) (len cap : Nat) (l : List Int) (w : World) (_ : (Lit.int .i64 sectors).wf = true) (hl : len = l.length) (hs : Ints w w.heap.size A l) (_ : ∀ z ∈ l, -9223372036854775808 ≤ z ∧ z ≤ 9223372036854775807) (hL : laidMetH Tryd.prog laid21 w) :
    Calls Tryd.prog 4 #[.int .i64 sectors, .slice A len cap] w (RetYes w) := by
  obtain ⟨ads, hS⟩ := sents_of hL
  subst hl
  exact jroom_any sectors A cap l w ads hS hs
end Go.Proofs.YtmpklljiddggpaaDoor
