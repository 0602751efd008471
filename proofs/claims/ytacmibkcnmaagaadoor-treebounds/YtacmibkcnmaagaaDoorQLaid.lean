/-
  What the rows' list of sentinel errors gives: each listed variable holds a pointer to an error made by errors.New, all of them apart. Conditions: the list's variables read as they are laid.
-/
import Derived.Test.YtacmibkcnmaagaaDoorRows
import Derived.ProofKit
import Derived.LaidLaws
import Derived.LaidMore
import Derived.MakeChecks
namespace Go.Proofs.YtacmibkcnmaagaaDoor
open Go.ChangeShapes Go.WideShapes Go.RowKit

theorem star_err : "*" ++ "errors.errorString" = "*errors.errorString" := by decide
theorem row_err (u : TypeId) (h : Tryd.prog.typeName? 3 u = some "*errors.errorString") : u = 188 :=
  typeName_ptr_named (nm := "errors.errorString") (by rw [star_err]; kernel_rfl) (by kernel_rfl) (by decide) u (by rw [star_err]; exact h)
theorem cellsErr : Tryd.prog.cellsOf 203 = 1 := by kernel_rfl
theorem cellsStr : Tryd.prog.cellsOf 9 = 1 := by kernel_rfl

/-- A variable that holds a sentinel. -/
structure Sentinel (w : World) (g : Nat) (a : Addr) : Prop where
  cell : w.cell? ⟨g, 0, none⟩ = some (.iface 188 (.pointer (some a)))
  block : ∃ c t, w.heap[a.block]? = some (.cells c t (0, 0))

/-- A datum that is an error made by errors.New. -/
def isErr (x : String × DataW Unit) : Prop := ∃ text, x.2 = .iface "*errors.errorString" (.ptr (.agg [.lit (.string text)]))
/-- A name of a variable of type error. -/
def isErrVar (n : String) (g : Nat) : Prop := Tryd.prog.globalNamed n = some g ∧ (Tryd.prog.globals[g]?).map (·.type) = some 39

set_option maxRecDepth 100000 in
theorem sentinels_of {W : World} : ∀ (l : List (String × DataW Unit)) (gs : List Nat) (ps : List MemPlace), DataW.LaidVars Tryd.prog W l ps → (∀ x ∈ l, isErr x) →
    gs.length = l.length → (∀ (i : Nat) (x : String × DataW Unit) (g : Nat), l[i]? = some x → gs[i]? = some g → isErrVar x.1 g) →
    (∀ b off, MemPlace.cell b off ∈ ps → (∃ c t, W.heap[b]? = some (.cells c t (0, 0))) ∧ ∀ u v, W.cell? ⟨b, off, none⟩ = some (.iface u v) → Value.okWide Tryd.prog W .any 0 u v) →
    ∃ ads : List Addr, ads.length = l.length ∧ (∀ (i g : Nat) (a : Addr), gs[i]? = some g → ads[i]? = some a → Sentinel W g a) ∧ (ads.map fun a => MemPlace.cell a.block a.off).Sublist ps := by
  intro l
  induction l with
  | nil =>
    intro gs ps h _ hl _ _
    refine ⟨[], rfl, ?_, by simp⟩
    intro i g a hg ha
    simp at ha
  | cons x l ih =>
    intro gs ps h he hl hv hr
    obtain ⟨nm, d⟩ := x
    obtain ⟨g, t, cs, f, p, q, hg, ht, hvar, hd, hq, rfl⟩ := h
    obtain ⟨g0, gs, rfl⟩ : ∃ g0 gs', gs = g0 :: gs' := by
      cases gs with
      | nil => simp at hl
      | cons a b => exact ⟨a, b, rfl⟩
    have hg0 := hv 0 (nm, d) g0 rfl rfl
    obtain rfl : g0 = g := Option.some.inj (hg0.1.symm.trans hg)
    obtain rfl : t = 39 := Option.some.inj (ht.symm.trans hg0.2)
    obtain ⟨text, htext⟩ := he (nm, d) (by simp)
    simp only at htext
    subst htext
    obtain ⟨l0⟩ := cs
    have hcell : ∀ v, l0 = [v] → W.cell? ⟨g0, 0, none⟩ = some v := fun v e => by
      have := World.var?_cell hg hvar 0
      subst e
      simpa using this
    have ok0 : ∀ u v, l0 = [.iface u v] → Value.okWide Tryd.prog W .any 0 u v := fun u v e => by
      refine (hr g0 0 ?_).2 u v (hcell _ e)
      subst e
      simp [MemPlace.row]
    obtain ⟨a, s, rfl, hc, _, _, rfl⟩ := errorString_of_trod Tryd.underlying39 row_err Tryd.underlying188 Tryd.underlying203 rfl rfl Tryd.underlying9 cellsErr cellsStr hd ok0
    obtain ⟨ads, hal, has, hsub⟩ := ih gs q hq (fun x hx => he x (by simp [hx])) (by simpa using hl) (fun i x g hx hg => hv (i + 1) x g (by simpa using hx) (by simpa using hg))
      (fun b off hb => hr b off (by simp [hb]))
    refine ⟨a :: ads, by simp [hal], ?_, ?_⟩
    · intro i g a' hgi hai
      cases i with
      | zero =>
        simp at hgi hai
        subst hgi; subst hai
        exact ⟨hcell _ rfl, (hr a.block a.off (by simp [MemPlace.row])).1⟩
      | succ i => exact has i g a' (by simpa using hgi) (by simpa using hai)
    · have e : MemPlace.row a 1 = [MemPlace.cell a.block a.off] := by simp [MemPlace.row]
      rw [List.map_cons, e, List.append_assoc]
      exact (List.Sublist.cons_cons _ hsub).trans (List.sublist_append_right _ _)

theorem sentinels_apart {ads : List Addr} {ps : List MemPlace} (hs : (ads.map fun a => MemPlace.cell a.block a.off).Sublist ps) (hn : ps.Nodup) {i j : Nat} {a b : Addr} (hi : ads[i]? = some a) (hj : ads[j]? = some b) (hij : i ≠ j) : a ≠ b := by
  have h := hs.nodup hn
  rintro rfl
  refine hij ?_
  obtain ⟨h1, e1⟩ := List.getElem?_eq_some_iff.1 hi
  obtain ⟨h2, e2⟩ := List.getElem?_eq_some_iff.1 hj
  exact (List.getElem_inj (h₀ := by simpa using h1) (h₁ := by simpa using h2) h).1 (by simp [e1, e2])
end Go.Proofs.YtacmibkcnmaagaaDoor
