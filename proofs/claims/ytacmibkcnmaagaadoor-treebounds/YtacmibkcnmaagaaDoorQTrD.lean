/-
  Copies of expressions: the walks of tree's cloneExprs and cloneExpr. Conditions: each theorem's own premises.
-/
import Derived.Test.YtacmibkcnmaagaaDoorQTrC
import Derived.Lib.SliceRun
namespace Go.Proofs.YtacmibkcnmaagaaDoor
open Go.RowKit Go.Lib

/-- What slices.Clone leaves. -/
def RetCw {α : Type} (L : Lie α) (w : World) (l : List α) (e : Ending) (w' : World) : Prop := ∃ A c, e = .returned (.slice A l.length c) ∧ Ow L w' w.heap.size (.slice A l.length c) l ∧ Below w.heap.size w w'
theorem ow_empty {α : Type} (L : Lie α) (w : World) : Ow L (w.alloc (.cells #[] L.ty)) w.heap.size (.slice (some ⟨w.heap.size, 0, none⟩) 0 0) [] :=
  Ow.of (l := []) (cap := 0) (Nat.le_refl _) (heap_alloc_new w _) (Nat.le_refl _) (Nat.zero_le _) (by simp) (by simp [Lie.cells])
/-- append(an empty slice, others...). -/
theorem append_empty {α : Type} {L : Lie α} {P : Program} {t : TypeId} (H : LieAt P t L) {w : World} {B : Nat} {A : Option Addr} {c : Nat} {l : List α} (hc : Rw L w B A l) (hz : A = none → c = 0) (hB : B ≤ w.heap.size) (hle : l.length ≤ 1099511627776) :
    ∃ A' c' w', (∀ ty, (Builtin.append_ #[t, t] ty #[.slice (some ⟨w.heap.size, 0, none⟩) 0 0, .slice A l.length c]).run P (w.alloc (.cells #[] L.ty)) = .ok (.slice A' l.length c') w') ∧ Ow L w' w.heap.size (.slice A' l.length c') l ∧ Below w.heap.size w w' := by
  obtain ⟨v', w', hrun, hO, hg⟩ := append_ow H (ow_empty L w) (hc.keep (w' := w.alloc (.cells #[] L.ty)) fun p hp => World.cell?_alloc_lt _ _ _ (by omega)) rfl hz (by simpa using hle) (by simp)
  rw [List.nil_append] at hO
  obtain ⟨A', c', rfl⟩ : ∃ A c, v' = .slice A l.length c := by
    obtain ⟨A, c, h, _⟩ := hO.rw
    exact ⟨A, c, h⟩
  exact ⟨A', c', w', hrun, hO, ((Below.refl _ w).alloc (Nat.le_refl _) _).grown hg (by simp) fun k hk => by cases hk; exact Nat.le_refl _⟩

theorem LX.cells_set : ∀ (l : List Ex) (k : Nat) (x : Ex), k < l.length →
    (((((LX.cells l).set (k * 5) (.int .i64 x.op)).set (k * 5 + 1) (.int .i64 x.pos)).set (k * 5 + 2) (.int .i64 x.n)).set (k * 5 + 3) (.string ⟨x.name.toArray⟩)).set (k * 5 + 4) (.slice x.A x.l.length x.c) = LX.cells (l.set k x)
  | y :: r, 0, x, _ => by
    show ((((((LX.enc y ++ LX.cells r).set (0 * 5) _).set (0 * 5 + 1) _).set (0 * 5 + 2) _).set (0 * 5 + 3) _).set (0 * 5 + 4) _) = LX.enc x ++ LX.cells r
    rfl
  | y :: r, k + 1, x, h => by
    have ih := LX.cells_set r k x (by simpa using h)
    show ((((((LX.enc y ++ LX.cells r).set ((k + 1) * 5) _).set ((k + 1) * 5 + 1) _).set ((k + 1) * 5 + 2) _).set ((k + 1) * 5 + 3) _).set ((k + 1) * 5 + 4) _) = LX.enc y ++ LX.cells (r.set k x)
    rw [← ih]
    have e0 : (k + 1) * 5 = k * 5 + 1 + 1 + 1 + 1 + 1 := by omega
    simp only [e0]
    rfl
/-- A store of an expression into a row of the call's own. -/
theorem Ow.put {w : World} {base g n c : Nat} {l : List Ex} (h : Ow LX w base (.slice (some ⟨g, 0, none⟩) n c) l) (k : Nat) (x : Ex) (hk : k < l.length) :
    Ow LX (((((w.setCell ⟨g, k * 5, none⟩ (.int .i64 x.op)).setCell ⟨g, k * 5 + 1, none⟩ (.int .i64 x.pos)).setCell ⟨g, k * 5 + 2, none⟩ (.int .i64 x.n)).setCell ⟨g, k * 5 + 3, none⟩ (.string ⟨x.name.toArray⟩)).setCell ⟨g, k * 5 + 4, none⟩ (.slice x.A x.l.length x.c)) base (.slice (some ⟨g, 0, none⟩) n c) (l.set k x) := by
  rcases h.form with ⟨e, rfl⟩ | ⟨g2, cap, cs, e, hb, hg, h1, h2, h3, h4⟩
  · cases e
  · cases e
    have hF := ((((hg.set (k * 5) (.int .i64 x.op)).set (k * 5 + 1) (.int .i64 x.pos)).set (k * 5 + 2) (.int .i64 x.n)).set (k * 5 + 3) (.string ⟨x.name.toArray⟩)).set (k * 5 + 4) (.slice x.A x.l.length x.c)
    have := Ow.of (L := LX) (l := l.set k x) (cap := c) hb hF (by simpa using h1) h2 (by simpa using h3) (by
      rw [← LX.cells_set l k x hk, ← h4, List.length_set]
      simp only [Array.toList_setIfInBounds, List.take_set])
    rw [List.length_set] at this
    exact this
theorem set_take {l' r : List Ex} {y x : Ex} : (l' ++ y :: r).set l'.length x = l' ++ [x] ++ r := by simp

end Go.Proofs.YtacmibkcnmaagaaDoor
