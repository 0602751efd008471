/-
  The walk of Line. Conditions: the theorem's own premises.
-/
import Derived.Test.YtacmibkcnmaagaaDoorQTxC
namespace Go.Proofs.YtacmibkcnmaagaaDoor
open Go.Shelf Go.RowKit Go.Lib
attribute [local go_sem] Oper.semAt_some

/-- A line and a column, a rune further. -/
def lcS (a : Nat × Nat) (x : Nat × Nat) : Nat × Nat := if x.2 = 10 then (a.1 + 1, 1) else (a.1, a.2 + 1)
/-- The line and the column behind these runes. -/
def lc (xs : List (Nat × Nat)) : Nat × Nat := xs.foldl lcS (1, 1)
theorem lc_snoc (xs : List (Nat × Nat)) (x : Nat × Nat) : lc (xs ++ [x]) = lcS (lc xs) x := by simp [lc]
theorem lcS_fst_le (a x : Nat × Nat) : (lcS a x).1 ≤ a.1 + 1 := by
  by_cases h : x.2 = 10
  · simp [lcS, h]
  · simp [lcS, h]
theorem lcS_snd_le (a x : Nat × Nat) : (lcS a x).2 ≤ a.2 + 1 := by
  by_cases h : x.2 = 10
  · simp [lcS, h]
  · simp [lcS, h]
theorem lc_le (xs : List (Nat × Nat)) : (lc xs).1 ≤ xs.length + 1 ∧ (lc xs).2 ≤ xs.length + 1 := by
  suffices ∀ n (xs : List (Nat × Nat)), xs.length = n → (lc xs).1 ≤ n + 1 ∧ (lc xs).2 ≤ n + 1 from this _ xs rfl
  intro n
  induction n with
  | zero => intro xs h; obtain rfl := List.eq_nil_of_length_eq_zero h; exact ⟨Nat.le_refl _, Nat.le_refl _⟩
  | succ n ih =>
    intro xs h
    obtain ⟨q, x, rfl⟩ : ∃ q x, xs = q ++ [x] := ⟨xs.dropLast, xs.getLast (by rintro rfl; simp at h), (List.dropLast_concat_getLast _).symm⟩
    have h1 := ih q (by simpa using h)
    have h2 := lcS_fst_le (lc q) x
    have h3 := lcS_snd_le (lc q) x
    rw [lc_snoc]
    omega
/-- What stands ahead of a place. -/
def ahead (pos : Int) (x : Nat × Nat) : Bool := decide ((x.1 : Int) < pos)
/-- The line and the column of a place. -/
def lnAt (s : ByteArray) (pos : Int) : Nat × Nat := lc ((runs s.data.toList).takeWhile (ahead pos))
theorem takeWhile_stop {α : Type} (p : α → Bool) (q : List α) (x : α) (t : List α) (h : ∀ y ∈ q, p y = true) (hx : p x = false) : (q ++ x :: t).takeWhile p = q := by
  induction q with
  | nil => simp [hx]
  | cons y q ih =>
    have := ih (fun z hz => h z (List.mem_cons_of_mem _ hz))
    simp [h y (by simp), this]
theorem takeWhile_all {α : Type} (p : α → Bool) (q : List α) (h : ∀ y ∈ q, p y = true) : q.takeWhile p = q := by
  induction q with
  | nil => rfl
  | cons y q ih =>
    have := ih (fun z hz => h z (List.mem_cons_of_mem _ hz))
    simp [h y (by simp), this]

/-- What Line's loop has in its three cells. -/
structure LnC (w : World) (n : Nat) (pos : Int) (a : Nat × Nat) (W : World) : Prop where
  p : Boxed W n 3 (.int .i64 pos)
  l : Boxed W (n + 1) 3 (.int .i64 (a.1 : Int))
  c : Boxed W (n + 1 + 1) 3 (.int .i64 (a.2 : Int))
  bel : Below n w W
theorem LnC.grown {w W W' : World} {n : Nat} {pos : Int} {a : Nat × Nat} {row : Option Nat} (h : LnC w n pos a W) (hg : W.grownBy W' row) (hr : ∀ r, row = some r → n + 3 ≤ r) : LnC w n pos a W' := by
  have hc := h.c.lt
  exact ⟨h.p.kept hg (fun e => by have := hr _ e.symm; omega), h.l.kept hg (fun e => by have := hr _ e.symm; omega), h.c.kept hg (fun e => by have := hr _ e.symm; omega), h.bel.grown hg (by have := h.p.lt; omega) (fun r e => by have := hr _ e; omega)⟩
theorem LnC.setC {w W : World} {n : Nat} {pos : Int} {a : Nat × Nat} (h : LnC w n pos a W) (b : Nat) : LnC w n pos (a.1, b) (W.setCell ⟨n + 1 + 1, 0, none⟩ (.int .i64 (b : Int))) :=
  ⟨h.p.kept (grownBy_setCell' _ _ _) (by simp; omega), h.l.kept (grownBy_setCell' _ _ _) (by simp), h.c.set _, h.bel.grown (grownBy_setCell' _ _ _) (by have := h.p.lt; omega) (fun r e => by cases e; omega)⟩
theorem LnC.setL {w W : World} {n : Nat} {pos : Int} {a : Nat × Nat} (h : LnC w n pos a W) (b : Nat) : LnC w n pos (b, a.2) (W.setCell ⟨n + 1, 0, none⟩ (.int .i64 (b : Int))) :=
  ⟨h.p.kept (grownBy_setCell' _ _ _) (by simp), h.l.set _, h.c.kept (grownBy_setCell' _ _ _) (by simp), h.bel.grown (grownBy_setCell' _ _ _) (by have := h.p.lt; omega) (fun r e => by cases e; omega)⟩

/-- What Line's loop knows between two rounds. -/
def LnI (w : World) (n : Nat) (pos : Int) (pre : List (Nat × Nat)) (W : World) : Prop := (∀ x ∈ pre, ahead pos x = true) ∧ LnC w n pos (lc pre) W
/-- It has been left. -/
def LnX (w : World) (n : Nat) (pos : Int) (c : Code) (pre : List (Nat × Nat)) (W : World) : Prop := c = .exit 0 ∧ ∃ q x, pre = q ++ [x] ∧ (∀ y ∈ q, ahead pos y = true) ∧ ahead pos x = false ∧ LnC w n pos (lc q) W
/-- It answers a line and a column. -/
def RetLn (w : World) (a : Nat × Nat) (e : Ending) (w' : World) : Prop := e = .returned (.tuple #[.int .i64 (a.1 : Int), .int .i64 (a.2 : Int)]) ∧ Below w.heap.size w w'

end Go.Proofs.YtacmibkcnmaagaaDoor
