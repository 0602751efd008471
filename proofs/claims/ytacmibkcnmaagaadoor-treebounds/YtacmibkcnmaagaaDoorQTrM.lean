/-
  The walk of tree's Count. Conditions: each theorem's own premises.
-/
import Derived.Test.YtacmibkcnmaagaaDoorQTrL
namespace Go.Proofs.YtacmibkcnmaagaaDoor
open Go.RowKit Go.Lib Go.Sort Go.Shelf
attribute [local go_sem] Oper.semAt_some

theorem counted_mk (s : ByteArray) (v1 v2 v3 v4 : Value) (w : World) (h1 : ∃ A n c, v1 = .slice A n c) (h2 : ∃ A n c, v2 = .slice A n c) (h3 : ∃ A n c, v3 = .slice A n c) (h4 : ∃ A n c, v4 = .slice A n c) :
    Calls Tryd.prog 74 #[.agg #[.string s, v1, v2, v3, v4]] w fun e w' => e = .returned (.func (.func 113) #[] #[.pointer (some ⟨w.heap.size, 0, none⟩)]) ∧ w' = w.alloc (.cells #[.string s, v1, v2, v3, v4] 30) := by
  obtain ⟨_, _, _, rfl⟩ := h1
  obtain ⟨_, _, _, rfl⟩ := h2
  obtain ⟨_, _, _, rfl⟩ := h3
  obtain ⟨_, _, _, rfl⟩ := h4
  go_enter Tryd.func74, Tryd.ntmps74
  go_wp2
  go_ret
  exact ⟨rfl, rfl⟩

/-- Where the count stands. -/
def CtI (w : World) (b n : Nat) (pre : List Ex) (W : World) : Prop := Below w.heap.size w W ∧ Blk W b 3 #[.int .i64 (pre.length : Int)] ∧ n ≤ W.heap.size
end Go.Proofs.YtacmibkcnmaagaaDoor
