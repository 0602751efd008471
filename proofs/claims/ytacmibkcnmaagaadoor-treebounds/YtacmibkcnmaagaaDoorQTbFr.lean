/-
  The tables of the library and the twenty-one sentinel errors, as the rows that list all of them lay them. Conditions: the list's variables read as they are laid.
-/
import Derived.Test.YtacmibkcnmaagaaDoorQTxFr
import Derived.Test.YtacmibkcnmaagaaDoorQIta
import Derived.Lib.LaidTab
namespace Go.Proofs.YtacmibkcnmaagaaDoor
open Go.ChangeShapes Go.WideShapes Go.ChangeAt Go.WideMaps Go.WideElems Go.RowKit

abbrev laid24 : List (String × DataW Unit) := [("math/bits.deBruijn32tab", Rows.laid_math_bits_deBruijn32tab), ("math/bits.deBruijn64tab", Rows.laid_math_bits_deBruijn64tab), ("internal/strconv.uint64pow10", Rows.laid_internal_strconv_uint64pow10), ("pendulum/api.ErrEnd", Rows.laid_pendulum_api_ErrEnd), ("pendulum/api.ErrShape", Rows.laid_pendulum_api_ErrShape), ("pendulum/api.ErrMany", Rows.laid_pendulum_api_ErrMany), ("pendulum/api.ErrRange", Rows.laid_pendulum_api_ErrRange), ("pendulum/api.ErrRune", Rows.laid_pendulum_api_ErrRune), ("pendulum/api.ErrWord", Rows.laid_pendulum_api_ErrWord), ("pendulum/api.ErrNumber", Rows.laid_pendulum_api_ErrNumber), ("pendulum/api.ErrDeep", Rows.laid_pendulum_api_ErrDeep), ("pendulum/api.ErrName", Rows.laid_pendulum_api_ErrName), ("pendulum/api.ErrTwice", Rows.laid_pendulum_api_ErrTwice), ("pendulum/api.ErrType", Rows.laid_pendulum_api_ErrType), ("pendulum/api.ErrClock", Rows.laid_pendulum_api_ErrClock), ("pendulum/api.ErrLoop", Rows.laid_pendulum_api_ErrLoop), ("pendulum/api.ErrInit", Rows.laid_pendulum_api_ErrInit), ("pendulum/api.ErrArity", Rows.laid_pendulum_api_ErrArity), ("pendulum/api.ErrNone", Rows.laid_pendulum_api_ErrNone), ("pendulum/api.ErrThere", Rows.laid_pendulum_api_ErrThere), ("pendulum/api.ErrFull", Rows.laid_pendulum_api_ErrFull), ("pendulum/api.ErrCrash", Rows.laid_pendulum_api_ErrCrash), ("pendulum/api.ErrState", Rows.laid_pendulum_api_ErrState), ("pendulum/api.ErrFace", Rows.laid_pendulum_api_ErrFace)]
theorem laid24_met (os : Os) (args : Array Value) : laidMetH Tryd.prog laid24 ((World.doorLaid Tryd.prog 600 os).forCall (fun _ _ => 0) ⟨#[], args, []⟩).memory :=
  laidMetH_of_parts3 (fuel := 8) (laidMet_of_run' 8 (by kernel_rfl) (by kernel_rfl)) (by kernel_rfl) (by kernel_rfl)
theorem pow10_data24 : (Rows.laid_internal_strconv_uint64pow10 : DataW Unit) = Lib.tabData .u64 Lib.pow10Tab := by kernel_rfl
set_option maxRecDepth 100000 in
/-- What they give: the table of the powers of ten, and the errors. -/
theorem all_of {W : World} (h : laidMetH Tryd.prog laid24 W) : ∃ ads, Sents W ads ∧ Tab W := by
  rw [MakeChecks.laidMetH_plain _ _ _ (by kernel_rfl)] at h
  obtain ⟨ps, hv, hnd, hr⟩ := h
  obtain ⟨g1, t1, cs1, f1, p1, q1, hg1, ht1, hvar1, hd1, hq1, rfl⟩ := hv
  obtain ⟨g2, t2, cs2, f2, p2, q2, hg2, ht2, hvar2, hd2, hq2, rfl⟩ := hq1
  obtain ⟨g3, t3, cs3, f3, p3, q3, hg3, ht3, hvar3, hd3, hq3, rfl⟩ := hq2
  have hr3 : ∀ b off, MemPlace.cell b off ∈ q3 → (∃ c t, W.heap[b]? = some (.cells c t (0, 0))) ∧ ∀ u v, W.cell? ⟨b, off, none⟩ = some (.iface u v) → Value.okWide Tryd.prog W .any 0 u v := fun b off hb => hr b off (by simp [hb])
  obtain ⟨ads, hl, hs, hsub⟩ := sentinels_of laid21 [5, 3, 1, 6, 7, 8, 9, 2, 0, 10, 11, 12, 13, 14, 15, 16, 17, 18, 19, 20, 21] q3 hq3 laid21_errs rfl laid21_vars hr3
  have hnd3 : q3.Nodup := by
    have h1 := (List.nodup_append.1 hnd).2.1
    have h2 := (List.nodup_append.1 h1).2.1
    exact (List.nodup_append.1 h2).2.1
  refine ⟨ads, ⟨by rw [hl]; rfl, hs, fun i j a b hi hj hij => sentinels_apart hsub hnd3 hi hj hij⟩, ?_⟩
  rw [pow10_data24] at hd3
  obtain rfl : g3 = 22 := Option.some.inj (hg3.symm.trans (by kernel_rfl))
  obtain rfl : t3 = 172 := Option.some.inj (ht3.symm.trans (by kernel_rfl))
  unfold Tab Lib.TabIs
  rw [hvar3, ← Lib.cells_of_tab (n := 20) Tryd.underlying172 Tryd.underlying154 (by kernel_rfl) (by kernel_rfl) hd3]
end Go.Proofs.YtacmibkcnmaagaaDoor
