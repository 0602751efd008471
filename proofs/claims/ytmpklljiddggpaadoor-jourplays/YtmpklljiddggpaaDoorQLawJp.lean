/-
  JourPlays, as its row asks it. Conditions: each theorem's own premises.
-/
import Derived.Test.YtmpklljiddggpaaDoorQJpT
import Derived.Test.YtmpklljiddggpaaDoorQJpU
namespace Go.Proofs.YtmpklljiddggpaaDoor
open Go.Shelf Go.RowKit Go.Lib Go.Sort

theorem jourPlays_walk (A : Option Addr) (len cap : Nat) (L : List DoJ) (ask : ByteArray) (w : World) (hl : len = L.length) (hs : Djs w w.heap.size A L) (_ : ask.size ≤ maxLen) (hL : laidMetH Tryd.prog laid21 w) :
    Calls Tryd.prog 3 #[.slice A len cap, .string ask] w (RetYes w) := by
  obtain ⟨ads, hS⟩ := sents_of hL
  subst hl
  exact jplays_any A cap L ask.data.toList w ads hS hs
end Go.Proofs.YtmpklljiddggpaaDoor
