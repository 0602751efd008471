/-
  JourFalls, as its row asks it. Conditions: each theorem's own premises.
-/
import Derived.Test.YtmpklljiddggpaaGreatDoorQJqB
import Derived.Test.YtmpklljiddggpaaGreatDoorQJpU
namespace Go.Proofs.YtmpklljiddggpaaGreatDoor
open Go.Shelf Go.RowKit Go.Lib Go.Sort

theorem jourFalls_walk (A : Option Addr) (len cap : Nat) (L : List DoJ) (A1 : Option Addr) (len1 cap1 : Nat) (arms : List Int) (A2 : Option Addr) (len2 cap2 : Nat) (zs : List Int) (w : World) (hl : len = L.length) (hs : Djs w w.heap.size A L) (hl1 : len1 = arms.length) (hs1 : Ints w w.heap.size A1 arms) (_ : ∀ z ∈ arms, -9223372036854775808 ≤ z ∧ z ≤ 9223372036854775807) (hl2 : len2 = zs.length) (hs2 : Ints w w.heap.size A2 zs) (_ : ∀ z ∈ zs, -9223372036854775808 ≤ z ∧ z ≤ 9223372036854775807) (hL : laidMetH Tryz.prog laid21 w) :
    Calls Tryz.prog 3 #[.slice A len cap, .slice A1 len1 cap1, .slice A2 len2 cap2] w (RetYes w) := by
  obtain ⟨ads, hS⟩ := sents_of hL
  subst hl hl1 hl2
  exact jfalls_any A cap L A1 cap1 arms A2 cap2 zs w ads hS hs hs1 hs2
end Go.Proofs.YtmpklljiddggpaaGreatDoor
