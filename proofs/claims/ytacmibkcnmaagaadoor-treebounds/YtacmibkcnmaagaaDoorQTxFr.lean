/-
  The twenty-one sentinel errors, as the rows that list all of them lay them. Conditions: the list's variables read as they are laid.
-/
import Derived.Test.YtacmibkcnmaagaaDoorRows
import Derived.Test.YtacmibkcnmaagaaDoorQDkSee
import Derived.ProofKit
import Derived.OpenShut
import Derived.ShutString
import Derived.ChangeOld
import Derived.SevenTiedAt
import Derived.Stop.Joined
namespace Go.Proofs.YtacmibkcnmaagaaDoor
open Go.ChangeShapes Go.WideShapes Go.ChangeAt Go.WideMaps Go.WideElems Go.RowKit

theorem own : ownKnob Tryd.prog.godebug = none := by kernel_rfl
theorem laidOut : laidOutB Tryd.prog = true := by kernel_rfl

abbrev laid21 : List (String × DataW Unit) := [("pendulum/api.ErrEnd", Rows.laid_pendulum_api_ErrEnd), ("pendulum/api.ErrShape", Rows.laid_pendulum_api_ErrShape), ("pendulum/api.ErrMany", Rows.laid_pendulum_api_ErrMany), ("pendulum/api.ErrRange", Rows.laid_pendulum_api_ErrRange), ("pendulum/api.ErrRune", Rows.laid_pendulum_api_ErrRune), ("pendulum/api.ErrWord", Rows.laid_pendulum_api_ErrWord), ("pendulum/api.ErrNumber", Rows.laid_pendulum_api_ErrNumber), ("pendulum/api.ErrDeep", Rows.laid_pendulum_api_ErrDeep), ("pendulum/api.ErrName", Rows.laid_pendulum_api_ErrName), ("pendulum/api.ErrTwice", Rows.laid_pendulum_api_ErrTwice), ("pendulum/api.ErrType", Rows.laid_pendulum_api_ErrType), ("pendulum/api.ErrClock", Rows.laid_pendulum_api_ErrClock), ("pendulum/api.ErrLoop", Rows.laid_pendulum_api_ErrLoop), ("pendulum/api.ErrInit", Rows.laid_pendulum_api_ErrInit), ("pendulum/api.ErrArity", Rows.laid_pendulum_api_ErrArity), ("pendulum/api.ErrNone", Rows.laid_pendulum_api_ErrNone), ("pendulum/api.ErrThere", Rows.laid_pendulum_api_ErrThere), ("pendulum/api.ErrFull", Rows.laid_pendulum_api_ErrFull), ("pendulum/api.ErrCrash", Rows.laid_pendulum_api_ErrCrash), ("pendulum/api.ErrState", Rows.laid_pendulum_api_ErrState), ("pendulum/api.ErrFace", Rows.laid_pendulum_api_ErrFace)]

theorem laid21_met (os : Os) (args : Array Value) : laidMetH Tryd.prog laid21 ((World.doorLaid Tryd.prog 600 os).forCall (fun _ _ => 0) ⟨#[], args, []⟩).memory :=
  laidMetH_of_parts3 (fuel := 8) (laidMet_of_run' 8 (by kernel_rfl) (by kernel_rfl)) (by kernel_rfl) (by kernel_rfl)

theorem laid21_errs : ∀ x ∈ laid21, isErr x := by
  intro x hx
  simp only [laid21, List.mem_cons, List.not_mem_nil, or_false] at hx
  rcases hx with rfl | rfl | rfl | rfl | rfl | rfl | rfl | rfl | rfl | rfl | rfl | rfl | rfl | rfl | rfl | rfl | rfl | rfl | rfl | rfl | rfl <;> exact ⟨_, rfl⟩
theorem laid21_vars : ∀ (i : Nat) (x : String × DataW Unit) (g : Nat), laid21[i]? = some x → [5, 3, 1, 6, 7, 8, 9, 2, 0, 10, 11, 12, 13, 14, 15, 16, 17, 18, 19, 20, 21][i]? = some g → isErrVar x.1 g := by
    intro i x g hx hg
    match i, hx, hg with
    | 0, hx, hg => simp at hx hg; subst hx; subst hg; exact ⟨by kernel_rfl, by kernel_rfl⟩
    | 1, hx, hg => simp at hx hg; subst hx; subst hg; exact ⟨by kernel_rfl, by kernel_rfl⟩
    | 2, hx, hg => simp at hx hg; subst hx; subst hg; exact ⟨by kernel_rfl, by kernel_rfl⟩
    | 3, hx, hg => simp at hx hg; subst hx; subst hg; exact ⟨by kernel_rfl, by kernel_rfl⟩
    | 4, hx, hg => simp at hx hg; subst hx; subst hg; exact ⟨by kernel_rfl, by kernel_rfl⟩
    | 5, hx, hg => simp at hx hg; subst hx; subst hg; exact ⟨by kernel_rfl, by kernel_rfl⟩
    | 6, hx, hg => simp at hx hg; subst hx; subst hg; exact ⟨by kernel_rfl, by kernel_rfl⟩
    | 7, hx, hg => simp at hx hg; subst hx; subst hg; exact ⟨by kernel_rfl, by kernel_rfl⟩
    | 8, hx, hg => simp at hx hg; subst hx; subst hg; exact ⟨by kernel_rfl, by kernel_rfl⟩
    | 9, hx, hg => simp at hx hg; subst hx; subst hg; exact ⟨by kernel_rfl, by kernel_rfl⟩
    | 10, hx, hg => simp at hx hg; subst hx; subst hg; exact ⟨by kernel_rfl, by kernel_rfl⟩
    | 11, hx, hg => simp at hx hg; subst hx; subst hg; exact ⟨by kernel_rfl, by kernel_rfl⟩
    | 12, hx, hg => simp at hx hg; subst hx; subst hg; exact ⟨by kernel_rfl, by kernel_rfl⟩
    | 13, hx, hg => simp at hx hg; subst hx; subst hg; exact ⟨by kernel_rfl, by kernel_rfl⟩
    | 14, hx, hg => simp at hx hg; subst hx; subst hg; exact ⟨by kernel_rfl, by kernel_rfl⟩
    | 15, hx, hg => simp at hx hg; subst hx; subst hg; exact ⟨by kernel_rfl, by kernel_rfl⟩
    | 16, hx, hg => simp at hx hg; subst hx; subst hg; exact ⟨by kernel_rfl, by kernel_rfl⟩
    | 17, hx, hg => simp at hx hg; subst hx; subst hg; exact ⟨by kernel_rfl, by kernel_rfl⟩
    | 18, hx, hg => simp at hx hg; subst hx; subst hg; exact ⟨by kernel_rfl, by kernel_rfl⟩
    | 19, hx, hg => simp at hx hg; subst hx; subst hg; exact ⟨by kernel_rfl, by kernel_rfl⟩
    | 20, hx, hg => simp at hx hg; subst hx; subst hg; exact ⟨by kernel_rfl, by kernel_rfl⟩
    | i + 21, hx, hg => simp at hg
theorem sents_of {W : World} (h : laidMetH Tryd.prog laid21 W) : ∃ ads, Sents W ads := by
  rw [MakeChecks.laidMetH_plain _ _ _ (by kernel_rfl)] at h
  obtain ⟨ps, hv, hnd, hr⟩ := h
  obtain ⟨ads, hl, hs, hsub⟩ := sentinels_of laid21 [5, 3, 1, 6, 7, 8, 9, 2, 0, 10, 11, 12, 13, 14, 15, 16, 17, 18, 19, 20, 21] ps hv laid21_errs rfl laid21_vars hr
  exact ⟨ads, ⟨by rw [hl]; rfl, hs, fun i j a b hi hj hij => sentinels_apart hsub hnd hi hj hij⟩⟩
end Go.Proofs.YtacmibkcnmaagaaDoor
