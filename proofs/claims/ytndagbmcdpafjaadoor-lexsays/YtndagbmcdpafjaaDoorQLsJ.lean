/-
  The walk of comes: do the tokens of a text come, and at last the error? Conditions: its own premises.
-/
import Derived.Test.YtndagbmcdpafjaaDoorQLsI
import Derived.Test.YtndagbmcdpafjaaDoorQLsH
import Derived.Test.YtndagbmcdpafjaaDoorQLsF
namespace Go.Proofs.YtndagbmcdpafjaaDoor
open Go.Shelf Go.RowKit Go.Lib
attribute [local go_sem] Oper.semAt_some

theorem lx_code {R : List Nat} : ∀ (n i : Nat), R.length - i ≤ n → ∀ l c p, lx R i = (l, some (c, p)) → cc c = c
  | n, i, hn, l, c, p, h => by
    rw [lx] at h
    cases hr : rd R i with
    | bad c2 q =>
      rw [hr] at h
      simp only [Prod.mk.injEq, Option.some.injEq] at h
      obtain ⟨-, rfl, -⟩ := h
      unfold rd rdAt at hr
      unfold cc
      split at hr
      · cases hr
      · split at hr
        · unfold nameAt at hr
          split at hr
          · cases hr; rfl
          · cases hr
        · split at hr
          · unfold numAt at hr
            split at hr
            · cases hr; rfl
            · split at hr
              · cases hr; rfl
              · cases hr
          · unfold signAt at hr
            split at hr
            · cases hr; rfl
            · cases hr
    | tok t e =>
      rw [hr] at h
      simp only at h
      split at h
      · cases h
      · rename_i hc
        simp only [not_or, Nat.not_le, Nat.not_lt] at hc
        simp only [Prod.mk.injEq] at h
        match n, hn with
        | 0, hn => omega
        | n + 1, hn => exact lx_code n e (by omega) _ c p (Prod.ext rfl h.2)
theorem lexIs_code {s : ByteArray} {l : List Tk} {c p : Nat} (h : LexIs s l (some (c, p))) : cc c = c := by
  rcases h with ⟨_, h⟩ | ⟨q, _, _, h⟩
  · exact lx_code _ 0 (Nat.le_refl _) l c p h.symm
  · cases h; rfl
theorem came_toks {l : List Tk} {f : Option (Nat × Nat)} {pre : List Ev} {t : Tk} (h : Came l f (pre ++ [.tok t])) : pre = (l.take pre.length).map .tok ∧ l[pre.length]? = some t := by
  obtain ⟨ys, hy, hp⟩ := h
  obtain ⟨T, hT, hb⟩ : ∃ T : List Ev, ys = l.map .tok ++ T ∧ (T = [] ∨ ∃ c p b, T = [.bad c p b]) := by
    cases f with
    | none => exact ⟨[], by rw [List.append_nil]; exact hy, .inl rfl⟩
    | some cp => obtain ⟨b, hb⟩ := hy; exact ⟨_, hb, .inr ⟨_, _, _, rfl⟩⟩
  subst hT
  have hi : (l.map Ev.tok ++ T)[pre.length]? = some (.tok t) := by
    obtain ⟨u, hu⟩ := hp
    rw [← hu, List.append_assoc, List.getElem?_append_right (Nat.le_refl _)]
    simp
  have hlt : pre.length < l.length := by
    rcases Nat.lt_or_ge pre.length l.length with h | h
    · exact h
    · exfalso
      rw [List.getElem?_append_right (by simpa using h)] at hi
      rcases hb with rfl | ⟨c, p, b, rfl⟩
      · simp at hi
      · rcases hz : pre.length - (l.map Ev.tok).length with _ | z
        · rw [hz] at hi; simp at hi
        · rw [hz] at hi; simp at hi
  rw [List.getElem?_append_left (by simpa using hlt), List.getElem?_map] at hi
  obtain ⟨t2, ht2, he⟩ := Option.map_eq_some_iff.1 hi
  cases he
  refine ⟨?_, ht2⟩
  have h1 : pre <+: l.map Ev.tok ++ T := List.IsPrefix.trans (List.prefix_append _ _) hp
  have h2 := List.prefix_iff_eq_take.1 h1
  rw [List.take_append_of_le_length (by simp; omega), ← List.map_take] at h2
  exact h2
theorem came_badx {l : List Tk} {f : Option (Nat × Nat)} {pre : List Ev} {c p b : Nat} (h : Came l f (pre ++ [.bad c p b])) : pre = l.map .tok ∧ f = some (c, p) := by
  obtain ⟨ys, hy, hp⟩ := h
  cases f with
  | none =>
    have hm : Ev.bad c p b ∈ ys := hp.subset (by simp)
    rw [show ys = l.map .tok from hy] at hm
    obtain ⟨t, _, ht⟩ := List.mem_map.1 hm
    cases ht
  | some cp =>
    obtain ⟨b2, hb⟩ := hy
    subst hb
    have hle := hp.length_le
    simp only [List.length_append, List.length_singleton, List.length_map] at hle
    have hi : (l.map Ev.tok ++ [Ev.bad cp.1 cp.2 b2])[pre.length]? = some (.bad c p b) := by
      obtain ⟨u, hu⟩ := hp
      rw [← hu, List.append_assoc, List.getElem?_append_right (Nat.le_refl _)]
      simp
    rcases Nat.lt_or_ge pre.length l.length with h | h
    · rw [List.getElem?_append_left (by simpa using h), List.getElem?_map] at hi
      obtain ⟨t2, _, he⟩ := Option.map_eq_some_iff.1 hi
      cases he
    · have hpl : pre.length = l.length := by omega
      rw [List.getElem?_append_right (by simp; omega)] at hi
      simp [hpl] at hi
      have h1 : pre <+: l.map Ev.tok ++ [Ev.bad cp.1 cp.2 b2] := List.IsPrefix.trans (List.prefix_append _ _) hp
      have h2 := List.prefix_iff_eq_take.1 h1
      rw [List.take_append_of_le_length (by simp; omega), List.take_of_length_le (by simp; omega)] at h2
      refine ⟨h2, ?_⟩
      rw [← hi.1, ← hi.2.1]
/-- What comes' loop holds. -/
structure CmC (w : World) (B : Nat) (vs : Value) (c p : Int) (a : Bool) (i : Nat) (en : Bool) (W : World) : Prop where
  wa : Boxed W B 28 vs
  cf : Blk5 W (B + 1) c p a
  r : Boxed W (B + 1 + 1) 4 (.bool false)
  ci : Boxed W (B + 1 + 1 + 1) 3 (.int .i64 (i : Int))
  ce : Boxed W (B + 1 + 1 + 1 + 1) 4 (.bool en)
  bel : Below B w W
section
variable {w W W' : World} {B : Nat} {vs : Value} {c p : Int} {a : Bool} {i : Nat} {en : Bool}
theorem CmC.grown {row : Option Nat} (h : CmC w B vs c p a i en W) (hg : W.grownBy W' row) (hr : ∀ r, row = some r → B + 5 ≤ r) (hw : B ≤ w.heap.size) : CmC w B vs c p a i en W' :=
  ⟨h.wa.kept hg (fun e => by have := hr _ e.symm; omega), h.cf.grown hg (fun e => by have := hr _ e.symm; omega), h.r.kept hg (fun e => by have := hr _ e.symm; omega), h.ci.kept hg (fun e => by have := hr _ e.symm; omega), h.ce.kept hg (fun e => by have := hr _ e.symm; omega), h.bel.grown hg (Nat.le_trans hw h.bel.size) (fun r e => by have := hr r e; omega)⟩
theorem CmC.below (h : CmC w B vs c p a i en W) (hb : Below W.heap.size W W') (hw : B ≤ w.heap.size) : CmC w B vs c p a i en W' :=
  h.grown (row := none) ⟨hb.os, hb.tape, hb.output, hb.size, fun k hk _ => hb.block k hk⟩ (fun _ e => by cases e) hw
theorem CmC.setI (h : CmC w B vs c p a i en W) : CmC w B vs c p a (i + 1) en (W.setCell ⟨B + 1 + 1 + 1, 0, none⟩ (.int .i64 ((i : Int) + 1))) :=
  ⟨h.wa.kept (grownBy_setCell' _ _ _) (by simp; omega), h.cf.grown (grownBy_setCell' _ _ _) (by simp), h.r.kept (grownBy_setCell' _ _ _) (by simp), h.ci.set _, h.ce.kept (grownBy_setCell' _ _ _) (by simp), h.bel.setCell (p := ⟨B + 1 + 1 + 1, 0, none⟩) (by show _ ≤ B + 1 + 1 + 1; omega) _⟩
theorem CmC.setE (h : CmC w B vs c p a i en W) : CmC w B vs c p a i true (W.setCell ⟨B + 1 + 1 + 1 + 1, 0, none⟩ (.bool true)) :=
  ⟨h.wa.kept (grownBy_setCell' _ _ _) (by simp; omega), h.cf.grown (grownBy_setCell' _ _ _) (by simp), h.r.kept (grownBy_setCell' _ _ _) (by simp), h.ci.kept (grownBy_setCell' _ _ _) (by simp), h.ce.set _, h.bel.setCell (p := ⟨B + 1 + 1 + 1 + 1, 0, none⟩) (by show _ ≤ B + 1 + 1 + 1 + 1; omega) _⟩
end
end Go.Proofs.YtndagbmcdpafjaaDoor
