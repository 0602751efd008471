/-
  The tables of the library and the sentinel errors, as the rows that list nine variables lay them. Conditions: the list's variables read as they are laid.
-/
import Derived.Test.YtmpklljiddggpaaGreatDoorQDkFrame
import Derived.Test.YtmpklljiddggpaaGreatDoorQJpA
import Derived.Test.YtmpklljiddggpaaGreatDoorQIta
import Derived.Lib.LaidTab
namespace Go.Proofs.YtmpklljiddggpaaGreatDoor
open Go.ChangeShapes Go.WideShapes Go.ChangeAt Go.WideMaps Go.WideElems Go.RowKit

abbrev laid9 : List (String × DataW Unit) := [("math/bits.deBruijn32tab", Rows.laid_math_bits_deBruijn32tab), ("math/bits.deBruijn64tab", Rows.laid_math_bits_deBruijn64tab), ("internal/strconv.uint64pow10", Rows.laid_internal_strconv_uint64pow10), ("pendulum/api.ErrEnd", Rows.laid_pendulum_api_ErrEnd), ("pendulum/api.ErrShape", Rows.laid_pendulum_api_ErrShape), ("pendulum/api.ErrMany", Rows.laid_pendulum_api_ErrMany), ("pendulum/api.ErrRange", Rows.laid_pendulum_api_ErrRange), ("pendulum/api.ErrFull", Rows.laid_pendulum_api_ErrFull), ("pendulum/api.ErrCrash", Rows.laid_pendulum_api_ErrCrash)]
abbrev laid6 : List (String × DataW Unit) := [("pendulum/api.ErrEnd", Rows.laid_pendulum_api_ErrEnd), ("pendulum/api.ErrShape", Rows.laid_pendulum_api_ErrShape), ("pendulum/api.ErrMany", Rows.laid_pendulum_api_ErrMany), ("pendulum/api.ErrRange", Rows.laid_pendulum_api_ErrRange), ("pendulum/api.ErrFull", Rows.laid_pendulum_api_ErrFull), ("pendulum/api.ErrCrash", Rows.laid_pendulum_api_ErrCrash)]
theorem laid9_met (os : Os) (args : Array Value) : laidMetH Tryz.prog laid9 ((World.doorLaid Tryz.prog 600 os).forCall (fun _ _ => 0) ⟨#[], args, []⟩).memory :=
  laidMetH_of_parts3 (fuel := 8) (laidMet_of_run' 8 (by kernel_rfl) (by kernel_rfl)) (by kernel_rfl) (by kernel_rfl)
theorem laid6_errs : ∀ x ∈ laid6, isErr x := by
  intro x hx
  simp only [laid6, List.mem_cons, List.not_mem_nil, or_false] at hx
  rcases hx with rfl | rfl | rfl | rfl | rfl | rfl <;> exact ⟨_, rfl⟩
theorem laid6_vars : ∀ (i : Nat) (x : String × DataW Unit) (g : Nat), laid6[i]? = some x → [4, 5, 0, 1, 2, 3][i]? = some g → isErrVar x.1 g := by
    intro i x g hx hg
    match i, hx, hg with
    | 0, hx, hg => simp at hx hg; subst hx; subst hg; exact ⟨by kernel_rfl, by kernel_rfl⟩
    | 1, hx, hg => simp at hx hg; subst hx; subst hg; exact ⟨by kernel_rfl, by kernel_rfl⟩
    | 2, hx, hg => simp at hx hg; subst hx; subst hg; exact ⟨by kernel_rfl, by kernel_rfl⟩
    | 3, hx, hg => simp at hx hg; subst hx; subst hg; exact ⟨by kernel_rfl, by kernel_rfl⟩
    | 4, hx, hg => simp at hx hg; subst hx; subst hg; exact ⟨by kernel_rfl, by kernel_rfl⟩
    | 5, hx, hg => simp at hx hg; subst hx; subst hg; exact ⟨by kernel_rfl, by kernel_rfl⟩
    | i + 6, hx, hg => simp at hg
theorem pow10_data : (Rows.laid_internal_strconv_uint64pow10 : DataW Unit) = Lib.tabData .u64 Lib.pow10Tab := by kernel_rfl
set_option maxRecDepth 100000 in
/-- What the nine give: the table of the powers of ten, and the errors. -/
theorem nine_of {W : World} (h : laidMetH Tryz.prog laid9 W) : ∃ aE aS aR aC aF aM, Errs W aE aS aR ∧ Es W aR aC aF aM ∧ Tab W := by
  rw [MakeChecks.laidMetH_plain _ _ _ (by kernel_rfl)] at h
  obtain ⟨ps, hv, hnd, hr⟩ := h
  obtain ⟨g1, t1, cs1, f1, p1, q1, hg1, ht1, hvar1, hd1, hq1, rfl⟩ := hv
  obtain ⟨g2, t2, cs2, f2, p2, q2, hg2, ht2, hvar2, hd2, hq2, rfl⟩ := hq1
  obtain ⟨g3, t3, cs3, f3, p3, q3, hg3, ht3, hvar3, hd3, hq3, rfl⟩ := hq2
  have hr3 : ∀ b off, MemPlace.cell b off ∈ q3 → (∃ c t, W.heap[b]? = some (.cells c t (0, 0))) ∧ ∀ u v, W.cell? ⟨b, off, none⟩ = some (.iface u v) → Value.okWide Tryz.prog W .any 0 u v := fun b off hb => hr b off (by simp [hb])
  obtain ⟨ads, hl, hs, _⟩ := sentinels_of laid6 [4, 5, 0, 1, 2, 3] q3 hq3 laid6_errs rfl laid6_vars hr3
  have hl : ads.length = 6 := hl
  have at_ : ∀ i (hi : i < 6), ads[i]? = some (ads.getD i default) := fun i hi => by
    rw [List.getD_eq_getElem?_getD, List.getElem?_eq_getElem (by omega)]
    rfl
  refine ⟨ads.getD 0 default, ads.getD 1 default, ads.getD 3 default, ads.getD 5 default, ads.getD 4 default, ads.getD 2 default,
    ⟨(hs 0 _ _ rfl (at_ 0 (by omega))).cell, (hs 1 _ _ rfl (at_ 1 (by omega))).cell, (hs 3 _ _ rfl (at_ 3 (by omega))).cell⟩,
    ⟨(hs 3 _ _ rfl (at_ 3 (by omega))).cell, (hs 5 _ _ rfl (at_ 5 (by omega))).cell, (hs 4 _ _ rfl (at_ 4 (by omega))).cell, (hs 2 _ _ rfl (at_ 2 (by omega))).cell⟩, ?_⟩
  rw [pow10_data] at hd3
  obtain rfl : g3 = 21 := Option.some.inj (hg3.symm.trans (by kernel_rfl))
  obtain rfl : t3 = 186 := Option.some.inj (ht3.symm.trans (by kernel_rfl))
  unfold Tab Lib.TabIs
  rw [hvar3, ← Lib.cells_of_tab (n := 20) Tryz.underlying186 Tryz.underlying163 (by kernel_rfl) (by kernel_rfl) hd3]
end Go.Proofs.YtmpklljiddggpaaGreatDoor
