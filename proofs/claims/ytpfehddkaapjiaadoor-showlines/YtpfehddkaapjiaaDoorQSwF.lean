/-
  The list of four variables that the rows of stage 8 lay: three tables of the library, and the printer's own table of texts; and what it gives. Conditions: the list's variables read as they are laid.
-/
import Derived.Test.YtpfehddkaapjiaaDoorQTrFr
import Derived.Test.YtpfehddkaapjiaaDoorQSwC
namespace Go.Proofs.YtpfehddkaapjiaaDoor
open Go.ChangeShapes Go.WideShapes Go.ChangeAt Go.WideMaps Go.WideElems Go.RowKit

/-- An array that reads as several: each of its elements reads as one. -/
theorem arr_trod {H : Type} {enc : TypeId × Value → H} {P : Program} {w : World} {base : Nat} {sp : Nat → Bool} {held : Bool} {fuel : Nat} {t e : TypeId} {n m : Nat} {cs : List Value} {ds : List (DataW H)} {p : List MemPlace}
    (ht : P.underlying t = some (.array n e)) (hce : P.cellsOf e = m) (hct : P.cellsOf t = n * m) (h : DataW.trod enc P w base sp held fuel t cs = some (.agg ds, p)) :
    cs.length = n * m ∧ ds.length = n ∧ ∃ f, ∀ i d, ds[i]? = some d → ∃ q, DataW.trod enc P w base sp held f e ((cs.drop (i * m)).take m) = some (d, q) := by
  cases fuel with
  | zero => simp [DataW.trod] at h
  | succ fuel =>
    simp only [DataW.trod, ht, hce, hct] at h
    split at h
    · rename_i hl
      obtain ⟨xs, hm, hx⟩ := Option.map_eq_some_iff.1 h
      have hxs : xs.map (·.1) = ds := by
        have := congrArg Prod.fst hx
        simpa using this
      have hxl : xs.length = n := by simpa using Lib.mapM_length hm
      refine ⟨hl, by rw [← hxs]; simpa using hxl, fuel, fun i d hd => ?_⟩
      have hi : i < n := by
        rw [← hxs] at hd
        have := (List.getElem?_eq_some_iff.1 hd).1
        simpa [hxl] using this
      obtain ⟨b, hb, hf⟩ := Lib.mapM_at hm i i (by simp [hi])
      rw [← hxs, List.getElem?_map, hb] at hd
      obtain rfl : b.1 = d := Option.some.inj hd
      exact ⟨b.2, hf⟩
    · cases h
/-- The texts' table in memory. -/
def BefC (cs : Array Value) : Prop := ∀ i j, i < 26 → j < 3 → cs[i * 3 + j]? = some (.string ⟨((befT.getD i []).getD j []).toArray⟩)
def Bef (w : World) : Prop := ∃ cs, w.var? Tryd.prog "pendulum/show.before" = some cs ∧ BefC cs
theorem var_below {P : Program} {w w' : World} {name : String} {cs : Array Value} (h : w.var? P name = some cs) (hb : Below w.heap.size w w') : w'.var? P name = some cs := by
  unfold World.var? at *
  cases hg : P.globalNamed name with
  | none => simp [hg] at h
  | some g =>
    simp only [hg, Option.bind_some] at h ⊢
    have hlt : g < w.heap.size := by
      rcases Nat.lt_or_ge g w.heap.size with h' | h'
      · exact h'
      · rw [Array.getElem?_eq_none h'] at h; simp at h
    rw [hb.block g hlt]
    exact h
theorem Bef.below {w w' : World} (h : Bef w) (hb : Below w.heap.size w w') : Bef w' := by
  obtain ⟨cs, h1, h2⟩ := h
  exact ⟨cs, var_below h1 hb, h2⟩
theorem Bef.cell {w : World} (h : Bef w) (i j : Nat) (hi : i < 26) (hj : j < 3) : w.cell? ⟨4, i * 3 + j, none⟩ = some (.string ⟨((befT.getD i []).getD j []).toArray⟩) := by
  obtain ⟨cs, h1, h2⟩ := h
  have := World.var?_cell (g := 4) (by kernel_rfl) h1 (i * 3 + j)
  rw [this]
  exact h2 i j hi hj
theorem before_data : (Rows.laid_pendulum_show_before : DataW Unit) = .agg (befT.map fun r => .agg (r.map fun s => .lit (.string s))) := by kernel_rfl
abbrev laid4w : List (String × DataW Unit) := [("math/bits.deBruijn32tab", Rows.laid_math_bits_deBruijn32tab), ("math/bits.deBruijn64tab", Rows.laid_math_bits_deBruijn64tab), ("internal/strconv.uint64pow10", Rows.laid_internal_strconv_uint64pow10), ("pendulum/show.before", Rows.laid_pendulum_show_before)]
theorem laid4w_met (os : Os) (args : Array Value) : laidMetH Tryd.prog laid4w ((World.doorLaid Tryd.prog 600 os).forCall (fun _ _ => 0) ⟨#[], args, []⟩).memory :=
  laidMetH_of_parts3 (fuel := 8) (laidMet_of_run' 8 (by kernel_rfl) (by kernel_rfl)) (by kernel_rfl) (by kernel_rfl)
theorem befT_at : ∀ i, i < 26 → ∃ a b c, befT[i]? = some [a, b, c] := by
  intro i hi
  have : ∀ i : Fin 26, ∃ a b c, befT[i.1]? = some [a, b, c] := by
    intro i
    have h : (befT[i.1]?).map List.length = some 3 := by revert i; decide
    obtain ⟨r, hr, h3⟩ := Option.map_eq_some_iff.1 h
    match r, h3 with
    | [a, b, c], _ => exact ⟨a, b, c, hr⟩
  exact this ⟨i, hi⟩
set_option maxRecDepth 100000 in
theorem bef_of4 {W : World} (h : laidMetH Tryd.prog laid4w W) : Tab W ∧ Bef W := by
  rw [MakeChecks.laidMetH_plain _ _ _ (by kernel_rfl)] at h
  obtain ⟨ps, hv, hnd, hr⟩ := h
  obtain ⟨g1, t1, cs1, f1, p1, q1, hg1, ht1, hvar1, hd1, hq1, rfl⟩ := hv
  obtain ⟨g2, t2, cs2, f2, p2, q2, hg2, ht2, hvar2, hd2, hq2, rfl⟩ := hq1
  obtain ⟨g3, t3, cs3, f3, p3, q3, hg3, ht3, hvar3, hd3, hq3, rfl⟩ := hq2
  obtain ⟨g4, t4, cs4, f4, p4, q4, hg4, ht4, hvar4, hd4, hq4, rfl⟩ := hq3
  refine ⟨?_, ?_⟩
  · rw [pow10_data3] at hd3
    obtain rfl : g3 = 22 := Option.some.inj (hg3.symm.trans (by kernel_rfl))
    obtain rfl : t3 = 182 := Option.some.inj (ht3.symm.trans (by kernel_rfl))
    unfold Tab Lib.TabIs
    rw [hvar3, ← Lib.cells_of_tab (n := 20) Tryd.underlying182 Tryd.underlying163 (by kernel_rfl) (by kernel_rfl) hd3]
  · rw [before_data] at hd4
    obtain rfl : g4 = 4 := Option.some.inj (hg4.symm.trans (by kernel_rfl))
    obtain rfl : t4 = 169 := Option.some.inj (ht4.symm.trans (by kernel_rfl))
    refine ⟨_, hvar4, fun i j hi hj => ?_⟩
    obtain ⟨hl, -, f, hf⟩ := arr_trod (n := 26) (m := 3) Tryd.underlying169 (by kernel_rfl) (by kernel_rfl) hd4
    obtain ⟨a, b, c, hr⟩ := befT_at i hi
    obtain ⟨q, hq⟩ := hf i (.agg ([a, b, c].map fun s => .lit (.string s))) (by rw [List.getElem?_map, hr]; rfl)
    obtain ⟨hl2, -, f2, hf2⟩ := arr_trod (n := 3) (m := 1) Tryd.underlying168 (by kernel_rfl) (by kernel_rfl) hq
    have hd : (befT.getD i []).getD j [] = [a, b, c].getD j [] := by rw [List.getD_eq_getElem?_getD (l := befT), hr]; rfl
    obtain ⟨s, hs⟩ : ∃ s, [a, b, c][j]? = some s := ⟨_, List.getElem?_eq_getElem (by simpa using hj)⟩
    obtain ⟨q2, hq2⟩ := hf2 j (.lit (.string s)) (by rw [List.getElem?_map, hs]; rfl)
    obtain ⟨x, hx, hlit, -⟩ := DataW.trod_string Tryd.underlying9 hq2
    have hsx : s = x.data.toList := by
      simp only [Prod.mk.injEq, DataW.lit.injEq, Lit.string.injEq] at hlit
      exact hlit.1
    rw [hd, List.getD_eq_getElem?_getD, hs]
    have h1 := congrArg (·[0]?) hx
    simp only [List.getElem?_take, List.getElem?_drop, Nat.mul_one, Nat.add_zero, Nat.lt_one_iff, if_true, List.getElem?_cons_zero] at h1
    rw [List.getElem?_toArray]
    simp only [hj, if_true] at h1
    rw [h1, hsx]
    rfl
end Go.Proofs.YtpfehddkaapjiaaDoor
