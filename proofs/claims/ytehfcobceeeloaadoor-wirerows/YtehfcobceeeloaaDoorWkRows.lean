/-
  The statements' walks as their rows ask for them. Conditions: the sentinel errors lie where the program's text lays them.
-/
import Derived.Test.YtehfcobceeeloaaDoorFrame21
import Derived.Test.YtehfcobceeeloaaDoorLawRows
namespace Go.Proofs.YtehfcobceeeloaaDoor
open Go.RowKit

theorem wireRows_walk (a0 : Option Addr) (len0 cap0 : Nat) (l : List Int) (a1 : ByteArray) (a2 : Int) (w : World) (hl : len0 = l.length) (hs : Ints w w.heap.size a0 l) (_w1 : a1.size ≤ maxLen) (_w2 : (Lit.int .i64 a2).wf = true) (hL : laidMetH Tryd.prog laid21 w) :
    Calls Tryd.prog 6 #[.slice a0 len0 cap0, .string a1, .int .i64 a2] w (RetYes w) := by
  by_cases h : 20 < len0 ∨ 60 < a1.size
  · exact rows_short a0 len0 cap0 a1 a2 w h
  · obtain ⟨ads, hS⟩ := sents_of hL
    exact rows_long a0 len0 cap0 l a1 a2 w ads hl (by omega) (by omega) hs hS
end Go.Proofs.YtehfcobceeeloaaDoor
