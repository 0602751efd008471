/-
  The statements' walks as their rows ask for them. Conditions: the sentinel errors lie where the program's text lays them.
-/
import Derived.Test.YtehfcobceeeloaaDoorFrame21
import Derived.Test.YtehfcobceeeloaaDoorLawRanges
namespace Go.Proofs.YtehfcobceeeloaaDoor
open Go.RowKit

theorem wireRanges_walk (a0 a1 a2 : Int) (a3 : Option Addr) (len3 cap3 : Nat) (l : List UInt8) (w : World) (w0 : (Lit.int .i64 a0).wf = true) (_w1 : (Lit.int .i64 a1).wf = true) (_w2 : (Lit.int .i64 a2).wf = true)
    (hl : len3 = l.length) (hs : Str w w.heap.size a3 l) (hz : a3 = none → cap3 = 0) (hL : laidMetH Tryd.prog laid21 w) :
    Calls Tryd.prog 5 #[.int .i64 a0, .int .i64 a1, .int .i64 a2, .slice a3 len3 cap3] w (RetYes w) := by
  by_cases h : 50 < len3
  · exact ranges_short a3 len3 cap3 a0 a1 a2 w h
  · obtain ⟨ads, hS⟩ := sents_of hL
    have h0 := wf_i64 w0
    exact ranges_long a3 len3 cap3 l a0 a1 a2 w ads hl (by omega) hs hz hS h0.1 h0.2
end Go.Proofs.YtehfcobceeeloaaDoor
