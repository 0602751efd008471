/-
  Changes that a statement appends one by one; lists of changes whose keys are unlike; digits tell their number. Conditions: each theorem's own premises.
-/
import Derived.Test.YtmpklljiddggpaaGreatDoorQJpP
import Derived.Test.YtmpklljiddggpaaGreatDoorQIta
namespace Go.Proofs.YtmpklljiddggpaaGreatDoor
open Go.Shelf Go.RowKit Go.Lib Go.Sort

/-- Changes, by their three cells. -/
def LCh : Lie Chg := ⟨55, 3, encC, fun _ => rfl, fun c u hu => by
  have : u = .string ⟨c.key.toArray⟩ ∨ u = .string ⟨c.val.toArray⟩ ∨ u = .bool c.gone := by simpa [encC] using hu
  rcases this with rfl | rfl | rfl <;> rfl⟩
theorem LChat : LieAt Tryz.prog 35 LCh := by
  obtain ⟨i0, hi, hz0, hz1, hz2⟩ := info_parts infoJ
  exact ⟨Tryz.underlying35, ⟨i0, _, hi, hz0, hz1, by omega, rfl⟩, by show 0 < 3; omega⟩
theorem LCh_cells (l : List Chg) : LCh.cells l = cellsL l := by
  induction l with
  | nil => rfl
  | cons c r ih =>
    show encC c ++ LCh.cells r = _
    rw [ih]
    rfl
theorem Ow.chs3 {w : World} {base : Nat} {v : Value} {l : List Chg} (h : Ow LCh w base v l) : ∃ A c, v = .slice A l.length c ∧ Chs w w.heap.size A l ∧ (A = none → c = 0) := by
  obtain ⟨A, c, rfl, hR, hz, _⟩ := h.rw
  refine ⟨A, c, rfl, ⟨fun hn => ?_⟩, hz⟩
  obtain ⟨ad, e, hb, hc⟩ := hR.here hn
  exact ⟨ad, e, hb, fun j u hu => hc j u (by rw [LCh_cells]; exact hu)⟩

theorem insC_more {c : Chg} : ∀ {l : List Chg}, (∀ x ∈ l, x.key ≠ c.key) → (insC c l).length = l.length + 1
  | [], _ => rfl
  | x :: r, h => by
    unfold insC
    split
    · rfl
    · rw [if_neg (fun e => h x (by simp) e.symm), List.length_cons, List.length_cons, insC_more fun y hy => h y (by simp [hy])]
theorem insC_le (c : Chg) : ∀ l : List Chg, (insC c l).length ≤ l.length + 1
  | [] => Nat.le_refl _
  | x :: r => by
    unfold insC
    split
    · exact Nat.le_refl _
    · split
      · simp
      · have := insC_le c r
        simp only [List.length_cons]
        omega
/-- Changes whose keys are unlike. -/
def Apart (l : List Chg) : Prop := l.Pairwise fun a b => a.key ≠ b.key
theorem setl_apart (l : List Chg) (h : Apart l) : (setl l).length = l.length := by
  suffices ∀ n (l : List Chg), l.length = n → Apart l → (setl l).length = l.length from this _ l rfl h
  intro n
  induction n with
  | zero =>
    intro l hl _
    obtain rfl := List.eq_nil_of_length_eq_zero hl
    rfl
  | succ n ih =>
    intro l hl h
    obtain ⟨a, c, rfl⟩ : ∃ a c, l = a ++ [c] := ⟨l.dropLast, l.getLast (by rintro rfl; simp at hl), (List.dropLast_concat_getLast _).symm⟩
    have hp := List.pairwise_append.1 h
    rw [setl_snoc, insC_more, ih a (by simpa using hl) hp.1]
    · simp
    · intro x hx
      obtain ⟨y, hy, rfl⟩ := setl_mem hx
      rw [strip_key, strip_key]
      exact hp.2.2 y hy c (by simp)
theorem aft_apart {l : List Chg} (h : Apart l) (hg : ∀ c ∈ l, c.gone = false) : (aft l).length = l.length := by
  unfold aft
  rw [List.filter_eq_self.2, setl_apart l h]
  intro x hx
  obtain ⟨y, hy, rfl⟩ := setl_mem hx
  simp [strip_gone, hg y hy]
/-- A key stays where nothing goes. -/
theorem key_stays {l : List Chg} (hg : ∀ c ∈ l, c.gone = false) {c : Chg} (hc : c ∈ l) : ∃ x ∈ aft l, x.key = c.key := by
  have h1 := aft_get c.key l
  cases hl : lastC c.key l with
  | none =>
    unfold lastC at hl
    rw [List.getLast?_eq_none_iff, List.filter_eq_nil_iff] at hl
    exact absurd (by simp) (hl c hc)
  | some d =>
    rw [hl] at h1
    have hd := lastC_some hl
    rw [show live (some d) = some d by simp [live, ofil, hg d hd.1]] at h1
    have := getC_some h1
    exact ⟨d, this.1, this.2⟩

/-- The number that digits tell. -/
def undig (l : List UInt8) : Nat := l.foldl (fun a d => a * 10 + (d.toNat - 48)) 0
theorem undig_dig (u : Nat) : undig (dig u) = u := by
  induction u using Nat.strongRecOn with
  | ind u ih =>
    unfold dig at ih ⊢
    rw [Lib.decDigits]
    split
    · simp [undig]
      omega
    · have := ih (u / 10) (by omega)
      unfold undig at this ⊢
      rw [List.foldl_append, this]
      simp
      omega
theorem dig_inj {a b : Nat} (h : dig a = dig b) : a = b := by rw [← undig_dig a, h, undig_dig]
end Go.Proofs.YtmpklljiddggpaaGreatDoor
