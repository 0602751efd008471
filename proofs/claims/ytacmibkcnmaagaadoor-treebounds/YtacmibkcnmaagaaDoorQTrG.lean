/-
  The iterator that Parts hands back. Conditions: each theorem's own premises.
-/
import Derived.Test.YtacmibkcnmaagaaDoorQTrF
namespace Go.Proofs.YtacmibkcnmaagaaDoor
open Go.Shelf Go.RowKit Go.Lib
attribute [local go_sem] Oper.semAt_some

theorem blk_ow {W W' : World} {row : Option Nat} {b n : Nat} {t : TypeId} {cs : Array Value} (h : Blk W b t cs) (hg : W.grownBy W' row) (hr : ∀ r, row = some r → n ≤ r ∧ ∃ o : Obj, W.heap[r]? = some o ∧ o.isCells = false) : Blk W' b t cs := by
  refine h.grown hg fun e => ?_
  obtain ⟨o, ho, hc⟩ := (hr b e.symm).2
  rw [show W.heap[b]? = _ from h] at ho
  cases ho
  cases hc
theorem lies_ow {W W' : World} {row : Option Nat} {n : Nat} {K : Nat → Prop} {x : Ex} (h : x.Lies W K) (hg : W.grownBy W' row) (hr : ∀ r, row = some r → n ≤ r ∧ ∃ o : Obj, W.heap[r]? = some o ∧ o.isCells = false) : x.Lies W' K :=
  Ex.Lies.keepV (fun _ h => h) (fun p v _ hv => by
    obtain ⟨o, ho, hi⟩ := isCells_of_cell hv
    refine (World.cell?_of_block (hg.block p.block (Array.getElem?_eq_some_iff.1 ho).1 fun e => ?_)).trans hv
    obtain ⟨o2, ho2, hc⟩ := (hr _ e.symm).2
    rw [ho] at ho2
    cases ho2
    rw [hi] at hc
    cases hc) x h
/-- Where Parts' loop stands. -/
def PtI (J : List Ex → World → Prop) (b0 lp n : Nat) (pre : List Ex) (W : World) : Prop := ∃ p, erL p = erL pre ∧ J p W ∧ Blk W b0 110 #[.func (.yield lp) #[] #[]] ∧ n ≤ W.heap.size
def PtX (Jx : List Ex → World → Prop) (c : Code) (pre : List Ex) (W : World) : Prop := c = .ret ∧ ∃ p, erL p = erL pre ∧ Jx p W

theorem retYd_of {e : Ending} {p q r p' r' : Prop} (h : (e = .returned (.bool true) ∧ p ∧ q ∧ r) ∨ (e = .returned (.bool false) ∧ p' ∧ r')) : ∃ bb : Bool, e = .returned (.bool bb) ∧ Hid ((bb = true ∧ p ∧ q ∧ r) ∨ (bb = false ∧ p' ∧ r')) := by
  rcases h with ⟨h, h2⟩ | ⟨h, h2⟩
  · exact ⟨true, h, Lib.hid (.inl ⟨rfl, h2⟩)⟩
  · exact ⟨false, h, Lib.hid (.inr ⟨rfl, h2⟩)⟩
end Go.Proofs.YtacmibkcnmaagaaDoor
