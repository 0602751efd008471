/-
  The three sentinel errors of wire, as the rows that list just these lay them. Conditions: the list's variables read as they are laid.
-/
import Derived.Test.YtehfcobceeeloaaDoorFrame
import Derived.Test.YtehfcobceeeloaaDoorLawPuts
import Derived.Test.YtehfcobceeeloaaDoorLawTwins
namespace Go.Proofs.YtehfcobceeeloaaDoor
open Go.ChangeShapes Go.WideShapes Go.ChangeAt Go.WideMaps Go.WideElems Go.RowKit

abbrev laid3 : List (String × DataW Unit) := [("pendulum/api.ErrEnd", Rows.laid_pendulum_api_ErrEnd), ("pendulum/api.ErrShape", Rows.laid_pendulum_api_ErrShape), ("pendulum/api.ErrRange", Rows.laid_pendulum_api_ErrRange)]

theorem laid3_met (os : Os) (args : Array Value) : laidMetH Tryd.prog laid3 ((World.doorLaid Tryd.prog 400 os).forCall (fun _ _ => 0) ⟨#[], args, []⟩).memory :=
  laidMetH_of_parts3 (fuel := 8) (laidMet_of_run' 8 (by kernel_rfl) (by kernel_rfl)) (by kernel_rfl) (by kernel_rfl)

theorem errs_of {W : World} (h : laidMetH Tryd.prog laid3 W) : ∃ aE aS aR, Errs W aE aS aR := by
  rw [MakeChecks.laidMetH_plain _ _ _ (by kernel_rfl)] at h
  obtain ⟨ps, hv, hnd, hr⟩ := h
  have he : ∀ x ∈ laid3, isErr x := by
    intro x hx
    simp only [laid3, List.mem_cons, List.not_mem_nil, or_false] at hx
    rcases hx with rfl | rfl | rfl <;> exact ⟨_, rfl⟩
  have hw : ∀ (i : Nat) (x : String × DataW Unit) (g : Nat), laid3[i]? = some x → [1, 2, 0][i]? = some g → isErrVar x.1 g := by
    intro i x g hx hg
    match i, hx, hg with
    | 0, hx, hg => simp at hx hg; subst hx; subst hg; exact ⟨by kernel_rfl, by kernel_rfl⟩
    | 1, hx, hg => simp at hx hg; subst hx; subst hg; exact ⟨by kernel_rfl, by kernel_rfl⟩
    | 2, hx, hg => simp at hx hg; subst hx; subst hg; exact ⟨by kernel_rfl, by kernel_rfl⟩
  obtain ⟨ads, hl, hs, _⟩ := sentinels_of laid3 [1, 2, 0] ps hv he rfl hw hr
  match ads, hl with
  | [a, b, c], _ => exact ⟨a, b, c, ⟨(hs 0 _ _ rfl rfl).cell, (hs 1 _ _ rfl rfl).cell, (hs 2 _ _ rfl rfl).cell⟩⟩

theorem wirePuts_walk (a0 : Option Addr) (len0 cap0 : Nat) (l : List UInt8) (a1 : Int) (a2 : ByteArray) (w : World) (hl : len0 = l.length) (hs : Str w w.heap.size a0 l) (_hz : a0 = none → cap0 = 0) (w1 : (Lit.int .i64 a1).wf = true) (_w2 : a2.size ≤ maxLen) (hL : laidMetH Tryd.prog laid3 w) :
    Calls Tryd.prog 3 #[.slice a0 len0 cap0, .int .i64 a1, .string a2] w (RetYes w) := by
  by_cases h : 100 < len0 ∨ 100 < a2.size
  · exact puts_short a0 len0 cap0 a1 a2 w h
  · obtain ⟨aE, aS, aR, he⟩ := errs_of hL
    have hb := wf_i64 w1
    exact puts_long a0 len0 cap0 l a1 a2 w aE aS aR hl (by omega) (by omega) hs he hb.1 hb.2
theorem wireTwins_walk (a0 : Option Addr) (len0 cap0 : Nat) (l : List Int) (a1 : Int) (w : World) (hl : len0 = l.length) (hs : Ints w w.heap.size a0 l) (_w1 : (Lit.int .i64 a1).wf = true) (hL : laidMetH Tryd.prog laid3 w) :
    Calls Tryd.prog 8 #[.slice a0 len0 cap0, .int .i64 a1] w (RetYes w) := by
  by_cases h : 20 < len0
  · exact twins_short a0 len0 cap0 a1 w h
  · obtain ⟨aE, aS, aR, he⟩ := errs_of hL
    exact twins_long a0 len0 cap0 l a1 w aE aS aR hl (by omega) hs he
end Go.Proofs.YtehfcobceeeloaaDoor
