/-
  The lists of variables that the rows lay, and what they give: the library's table, the errors. Conditions: the lists' variables read as they are laid.
-/
import Derived.Test.YtndagbmcdpafjaaDoorQTxFr
import Derived.Test.YtndagbmcdpafjaaDoorQIta
import Derived.Test.YtndagbmcdpafjaaDoorQLxD
import Derived.Lib.LaidTab
namespace Go.Proofs.YtndagbmcdpafjaaDoor
open Go.ChangeShapes Go.WideShapes Go.ChangeAt Go.WideMaps Go.WideElems Go.RowKit

theorem pow10_dataL : (Rows.laid_internal_strconv_uint64pow10 : DataW Unit) = Lib.tabData .u64 Lib.pow10Tab := by kernel_rfl
abbrev laid8 : List (String × DataW Unit) := [("math/bits.deBruijn32tab", Rows.laid_math_bits_deBruijn32tab), ("math/bits.deBruijn64tab", Rows.laid_math_bits_deBruijn64tab), ("internal/strconv.uint64pow10", Rows.laid_internal_strconv_uint64pow10), ("strconv.ErrRange", Rows.laid_strconv_ErrRange), ("strconv.ErrSyntax", Rows.laid_strconv_ErrSyntax), ("pendulum/api.ErrMany", Rows.laid_pendulum_api_ErrMany), ("pendulum/api.ErrRune", Rows.laid_pendulum_api_ErrRune), ("pendulum/api.ErrNumber", Rows.laid_pendulum_api_ErrNumber)]
abbrev lerr8 : List (String × DataW Unit) := [("strconv.ErrRange", Rows.laid_strconv_ErrRange), ("strconv.ErrSyntax", Rows.laid_strconv_ErrSyntax), ("pendulum/api.ErrMany", Rows.laid_pendulum_api_ErrMany), ("pendulum/api.ErrRune", Rows.laid_pendulum_api_ErrRune), ("pendulum/api.ErrNumber", Rows.laid_pendulum_api_ErrNumber)]
theorem laid8_met (os : Os) (args : Array Value) : laidMetH Tryd.prog laid8 ((World.doorLaid Tryd.prog 600 os).forCall (fun _ _ => 0) ⟨#[], args, []⟩).memory :=
  laidMetH_of_parts3 (fuel := 8) (laidMet_of_run' 8 (by kernel_rfl) (by kernel_rfl)) (by kernel_rfl) (by kernel_rfl)
theorem lerr8_errs : ∀ x ∈ lerr8, isErr x := by
  intro x hx
  simp only [lerr8, List.mem_cons, List.not_mem_nil, or_false] at hx
  rcases hx with rfl | rfl | rfl | rfl | rfl <;> exact ⟨_, rfl⟩
theorem lerr8_vars : ∀ (i : Nat) (x : String × DataW Unit) (g : Nat), lerr8[i]? = some x → [23, 22, 1, 4, 5][i]? = some g → isErrVar x.1 g := by
    intro i x g hx hg
    match i, hx, hg with
    | 0, hx, hg => simp at hx hg; subst hx; subst hg; exact ⟨by kernel_rfl, by kernel_rfl⟩
    | 1, hx, hg => simp at hx hg; subst hx; subst hg; exact ⟨by kernel_rfl, by kernel_rfl⟩
    | 2, hx, hg => simp at hx hg; subst hx; subst hg; exact ⟨by kernel_rfl, by kernel_rfl⟩
    | 3, hx, hg => simp at hx hg; subst hx; subst hg; exact ⟨by kernel_rfl, by kernel_rfl⟩
    | 4, hx, hg => simp at hx hg; subst hx; subst hg; exact ⟨by kernel_rfl, by kernel_rfl⟩
    | i + 5, hx, hg => simp at hg
set_option maxRecDepth 100000 in
theorem of8 {W : World} (h : laidMetH Tryd.prog laid8 W) : ∃ er, Lerr W er ∧ Tab W := by
  rw [MakeChecks.laidMetH_plain _ _ _ (by kernel_rfl)] at h
  obtain ⟨ps, hv, hnd, hr⟩ := h
  obtain ⟨g1, t1, cs1, f1, p1, q1, hg1, ht1, hvar1, hd1, hq1, rfl⟩ := hv
  obtain ⟨g2, t2, cs2, f2, p2, q2, hg2, ht2, hvar2, hd2, hq2, rfl⟩ := hq1
  obtain ⟨g3, t3, cs3, f3, p3, q3, hg3, ht3, hvar3, hd3, hq3, rfl⟩ := hq2
  have hr3 : ∀ b off, MemPlace.cell b off ∈ q3 → (∃ c t, W.heap[b]? = some (.cells c t (0, 0))) ∧ ∀ u v, W.cell? ⟨b, off, none⟩ = some (.iface u v) → Value.okWide Tryd.prog W .any 0 u v := fun b off hb => hr b off (by simp [hb])
  obtain ⟨ads, hl, hs, hsub⟩ := sentinels_of lerr8 [23, 22, 1, 4, 5] q3 hq3 lerr8_errs rfl lerr8_vars hr3
  have hl : ads.length = 5 := hl
  have hnd3 : q3.Nodup := by
    have h1 := (List.nodup_append.1 hnd).2.1
    have h2 := (List.nodup_append.1 h1).2.1
    exact (List.nodup_append.1 h2).2.1
  have at_ : ∀ i (hi : i < 5), ads[i]? = some (ads.getD i default) := fun i hi => by
    rw [List.getD_eq_getElem?_getD, List.getElem?_eq_getElem (by omega)]
    rfl
  have hT : Tab W := by
    rw [pow10_dataL] at hd3
    obtain rfl : g3 = 21 := Option.some.inj (hg3.symm.trans (by kernel_rfl))
    obtain rfl : t3 = 168 := Option.some.inj (ht3.symm.trans (by kernel_rfl))
    unfold Tab Lib.TabIs
    rw [hvar3, ← Lib.cells_of_tab (n := 20) Tryd.underlying168 Tryd.underlying149 (by kernel_rfl) (by kernel_rfl) hd3]
  exact ⟨fun i => if i = 2 then ads.getD 2 default else if i = 4 then ads.getD 3 default else ads.getD 4 default, ⟨(hs 2 _ _ rfl (at_ 2 (by omega))).cell, (hs 3 _ _ rfl (at_ 3 (by omega))).cell, (hs 4 _ _ rfl (at_ 4 (by omega))).cell, _, _, (hs 0 _ _ rfl (at_ 0 (by omega))).cell⟩, hT⟩
abbrev laid26 : List (String × DataW Unit) := [("math/bits.deBruijn32tab", Rows.laid_math_bits_deBruijn32tab), ("math/bits.deBruijn64tab", Rows.laid_math_bits_deBruijn64tab), ("internal/strconv.uint64pow10", Rows.laid_internal_strconv_uint64pow10), ("strconv.ErrRange", Rows.laid_strconv_ErrRange), ("strconv.ErrSyntax", Rows.laid_strconv_ErrSyntax), ("pendulum/api.ErrEnd", Rows.laid_pendulum_api_ErrEnd), ("pendulum/api.ErrShape", Rows.laid_pendulum_api_ErrShape), ("pendulum/api.ErrMany", Rows.laid_pendulum_api_ErrMany), ("pendulum/api.ErrRange", Rows.laid_pendulum_api_ErrRange), ("pendulum/api.ErrRune", Rows.laid_pendulum_api_ErrRune), ("pendulum/api.ErrWord", Rows.laid_pendulum_api_ErrWord), ("pendulum/api.ErrNumber", Rows.laid_pendulum_api_ErrNumber), ("pendulum/api.ErrDeep", Rows.laid_pendulum_api_ErrDeep), ("pendulum/api.ErrName", Rows.laid_pendulum_api_ErrName), ("pendulum/api.ErrTwice", Rows.laid_pendulum_api_ErrTwice), ("pendulum/api.ErrType", Rows.laid_pendulum_api_ErrType), ("pendulum/api.ErrClock", Rows.laid_pendulum_api_ErrClock), ("pendulum/api.ErrLoop", Rows.laid_pendulum_api_ErrLoop), ("pendulum/api.ErrInit", Rows.laid_pendulum_api_ErrInit), ("pendulum/api.ErrArity", Rows.laid_pendulum_api_ErrArity), ("pendulum/api.ErrNone", Rows.laid_pendulum_api_ErrNone), ("pendulum/api.ErrThere", Rows.laid_pendulum_api_ErrThere), ("pendulum/api.ErrFull", Rows.laid_pendulum_api_ErrFull), ("pendulum/api.ErrCrash", Rows.laid_pendulum_api_ErrCrash), ("pendulum/api.ErrState", Rows.laid_pendulum_api_ErrState), ("pendulum/api.ErrFace", Rows.laid_pendulum_api_ErrFace)]
abbrev lerr26 : List (String × DataW Unit) := [("strconv.ErrRange", Rows.laid_strconv_ErrRange), ("strconv.ErrSyntax", Rows.laid_strconv_ErrSyntax), ("pendulum/api.ErrEnd", Rows.laid_pendulum_api_ErrEnd), ("pendulum/api.ErrShape", Rows.laid_pendulum_api_ErrShape), ("pendulum/api.ErrMany", Rows.laid_pendulum_api_ErrMany), ("pendulum/api.ErrRange", Rows.laid_pendulum_api_ErrRange), ("pendulum/api.ErrRune", Rows.laid_pendulum_api_ErrRune), ("pendulum/api.ErrWord", Rows.laid_pendulum_api_ErrWord), ("pendulum/api.ErrNumber", Rows.laid_pendulum_api_ErrNumber), ("pendulum/api.ErrDeep", Rows.laid_pendulum_api_ErrDeep), ("pendulum/api.ErrName", Rows.laid_pendulum_api_ErrName), ("pendulum/api.ErrTwice", Rows.laid_pendulum_api_ErrTwice), ("pendulum/api.ErrType", Rows.laid_pendulum_api_ErrType), ("pendulum/api.ErrClock", Rows.laid_pendulum_api_ErrClock), ("pendulum/api.ErrLoop", Rows.laid_pendulum_api_ErrLoop), ("pendulum/api.ErrInit", Rows.laid_pendulum_api_ErrInit), ("pendulum/api.ErrArity", Rows.laid_pendulum_api_ErrArity), ("pendulum/api.ErrNone", Rows.laid_pendulum_api_ErrNone), ("pendulum/api.ErrThere", Rows.laid_pendulum_api_ErrThere), ("pendulum/api.ErrFull", Rows.laid_pendulum_api_ErrFull), ("pendulum/api.ErrCrash", Rows.laid_pendulum_api_ErrCrash), ("pendulum/api.ErrState", Rows.laid_pendulum_api_ErrState), ("pendulum/api.ErrFace", Rows.laid_pendulum_api_ErrFace)]
theorem laid26_met (os : Os) (args : Array Value) : laidMetH Tryd.prog laid26 ((World.doorLaid Tryd.prog 600 os).forCall (fun _ _ => 0) ⟨#[], args, []⟩).memory :=
  laidMetH_of_parts3 (fuel := 8) (laidMet_of_run' 8 (by kernel_rfl) (by kernel_rfl)) (by kernel_rfl) (by kernel_rfl)
theorem lerr26_errs : ∀ x ∈ lerr26, isErr x := by
  intro x hx
  simp only [lerr26, List.mem_cons, List.not_mem_nil, or_false] at hx
  rcases hx with rfl | rfl | rfl | rfl | rfl | rfl | rfl | rfl | rfl | rfl | rfl | rfl | rfl | rfl | rfl | rfl | rfl | rfl | rfl | rfl | rfl | rfl | rfl <;> exact ⟨_, rfl⟩
theorem lerr26_vars : ∀ (i : Nat) (x : String × DataW Unit) (g : Nat), lerr26[i]? = some x → [23, 22, 6, 3, 1, 7, 4, 8, 5, 2, 0, 9, 10, 11, 12, 13, 14, 15, 16, 17, 18, 19, 20][i]? = some g → isErrVar x.1 g := by
    intro i x g hx hg
    match i, hx, hg with
    | 0, hx, hg => simp at hx hg; subst hx; subst hg; exact ⟨by kernel_rfl, by kernel_rfl⟩
    | 1, hx, hg => simp at hx hg; subst hx; subst hg; exact ⟨by kernel_rfl, by kernel_rfl⟩
    | 2, hx, hg => simp at hx hg; subst hx; subst hg; exact ⟨by kernel_rfl, by kernel_rfl⟩
    | 3, hx, hg => simp at hx hg; subst hx; subst hg; exact ⟨by kernel_rfl, by kernel_rfl⟩
    | 4, hx, hg => simp at hx hg; subst hx; subst hg; exact ⟨by kernel_rfl, by kernel_rfl⟩
    | 5, hx, hg => simp at hx hg; subst hx; subst hg; exact ⟨by kernel_rfl, by kernel_rfl⟩
    | 6, hx, hg => simp at hx hg; subst hx; subst hg; exact ⟨by kernel_rfl, by kernel_rfl⟩
    | 7, hx, hg => simp at hx hg; subst hx; subst hg; exact ⟨by kernel_rfl, by kernel_rfl⟩
    | 8, hx, hg => simp at hx hg; subst hx; subst hg; exact ⟨by kernel_rfl, by kernel_rfl⟩
    | 9, hx, hg => simp at hx hg; subst hx; subst hg; exact ⟨by kernel_rfl, by kernel_rfl⟩
    | 10, hx, hg => simp at hx hg; subst hx; subst hg; exact ⟨by kernel_rfl, by kernel_rfl⟩
    | 11, hx, hg => simp at hx hg; subst hx; subst hg; exact ⟨by kernel_rfl, by kernel_rfl⟩
    | 12, hx, hg => simp at hx hg; subst hx; subst hg; exact ⟨by kernel_rfl, by kernel_rfl⟩
    | 13, hx, hg => simp at hx hg; subst hx; subst hg; exact ⟨by kernel_rfl, by kernel_rfl⟩
    | 14, hx, hg => simp at hx hg; subst hx; subst hg; exact ⟨by kernel_rfl, by kernel_rfl⟩
    | 15, hx, hg => simp at hx hg; subst hx; subst hg; exact ⟨by kernel_rfl, by kernel_rfl⟩
    | 16, hx, hg => simp at hx hg; subst hx; subst hg; exact ⟨by kernel_rfl, by kernel_rfl⟩
    | 17, hx, hg => simp at hx hg; subst hx; subst hg; exact ⟨by kernel_rfl, by kernel_rfl⟩
    | 18, hx, hg => simp at hx hg; subst hx; subst hg; exact ⟨by kernel_rfl, by kernel_rfl⟩
    | 19, hx, hg => simp at hx hg; subst hx; subst hg; exact ⟨by kernel_rfl, by kernel_rfl⟩
    | 20, hx, hg => simp at hx hg; subst hx; subst hg; exact ⟨by kernel_rfl, by kernel_rfl⟩
    | 21, hx, hg => simp at hx hg; subst hx; subst hg; exact ⟨by kernel_rfl, by kernel_rfl⟩
    | 22, hx, hg => simp at hx hg; subst hx; subst hg; exact ⟨by kernel_rfl, by kernel_rfl⟩
    | i + 23, hx, hg => simp at hg
set_option maxRecDepth 100000 in
theorem of26 {W : World} (h : laidMetH Tryd.prog laid26 W) : ∃ ads er, Sents W ads ∧ Lerr W er ∧ (∀ i, i < 21 → ads[i]? = some (er i)) ∧ Tab W := by
  rw [MakeChecks.laidMetH_plain _ _ _ (by kernel_rfl)] at h
  obtain ⟨ps, hv, hnd, hr⟩ := h
  obtain ⟨g1, t1, cs1, f1, p1, q1, hg1, ht1, hvar1, hd1, hq1, rfl⟩ := hv
  obtain ⟨g2, t2, cs2, f2, p2, q2, hg2, ht2, hvar2, hd2, hq2, rfl⟩ := hq1
  obtain ⟨g3, t3, cs3, f3, p3, q3, hg3, ht3, hvar3, hd3, hq3, rfl⟩ := hq2
  have hr3 : ∀ b off, MemPlace.cell b off ∈ q3 → (∃ c t, W.heap[b]? = some (.cells c t (0, 0))) ∧ ∀ u v, W.cell? ⟨b, off, none⟩ = some (.iface u v) → Value.okWide Tryd.prog W .any 0 u v := fun b off hb => hr b off (by simp [hb])
  obtain ⟨ads, hl, hs, hsub⟩ := sentinels_of lerr26 [23, 22, 6, 3, 1, 7, 4, 8, 5, 2, 0, 9, 10, 11, 12, 13, 14, 15, 16, 17, 18, 19, 20] q3 hq3 lerr26_errs rfl lerr26_vars hr3
  have hl : ads.length = 23 := hl
  have hnd3 : q3.Nodup := by
    have h1 := (List.nodup_append.1 hnd).2.1
    have h2 := (List.nodup_append.1 h1).2.1
    exact (List.nodup_append.1 h2).2.1
  have at_ : ∀ i (hi : i < 23), ads[i]? = some (ads.getD i default) := fun i hi => by
    rw [List.getD_eq_getElem?_getD, List.getElem?_eq_getElem (by omega)]
    rfl
  have hT : Tab W := by
    rw [pow10_dataL] at hd3
    obtain rfl : g3 = 21 := Option.some.inj (hg3.symm.trans (by kernel_rfl))
    obtain rfl : t3 = 168 := Option.some.inj (ht3.symm.trans (by kernel_rfl))
    unfold Tab Lib.TabIs
    rw [hvar3, ← Lib.cells_of_tab (n := 20) Tryd.underlying168 Tryd.underlying149 (by kernel_rfl) (by kernel_rfl) hd3]
  refine ⟨ads.drop 2, fun i => ads.getD (i + 2) default, ⟨by rw [List.length_drop, hl], fun i g a hg ha => ?_, fun i j a b hi hj hij => ?_⟩, ⟨(hs 4 _ _ rfl (at_ 4 (by omega))).cell, (hs 6 _ _ rfl (at_ 6 (by omega))).cell, (hs 8 _ _ rfl (at_ 8 (by omega))).cell, _, _, (hs 0 _ _ rfl (at_ 0 (by omega))).cell⟩, fun i hi => ?_, hT⟩
  · rw [List.getElem?_drop] at ha
    exact hs (2 + i) g a (by rw [Nat.add_comm]; exact hg) ha
  · rw [List.getElem?_drop] at hi hj
    exact sentinels_apart hsub hnd3 hi hj (by omega)
  · rw [List.getElem?_drop, Nat.add_comm]
    exact at_ (i + 2) (by omega)
end Go.Proofs.YtndagbmcdpafjaaDoor
