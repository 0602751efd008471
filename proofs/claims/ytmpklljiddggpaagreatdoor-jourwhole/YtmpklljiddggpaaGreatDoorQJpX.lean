/-
  Plain: of several changes of one key the last counts. Conditions: none.
-/
import Derived.Test.YtmpklljiddggpaaGreatDoorQCh3
import Derived.Test.YtmpklljiddggpaaGreatDoorQJpP
namespace Go.Proofs.YtmpklljiddggpaaGreatDoor
open Go.Shelf Go.RowKit Go.Lib Go.Sort

/-- The key of a number. -/
def keyK (k : Nat) : List UInt8 := [107] ++ dig k
theorem keyK_inj {a b : Nat} (h : keyK a = keyK b) : a = b := dig_inj (by simpa [keyK] using h)
def k5 (z : Int) : Nat := (z % 5).toNat
theorem k5_lt (z : Int) : k5 z < 5 := by
  have h1 := Int.emod_nonneg z (by omega : (5 : Int) ≠ 0)
  have h2 := Int.emod_lt_of_pos z (by omega : (0 : Int) < 5)
  unfold k5
  omega
theorem k5_int (z : Int) : z % 5 = (k5 z : Int) := by
  have h1 := Int.emod_nonneg z (by omega : (5 : Int) ≠ 0)
  unfold k5
  omega
def lasC (z : Int) (i : Nat) : Chg := ⟨keyK (k5 z), dig i, decide (z.tmod 3 = 0)⟩
/-- The changes of the first so many numbers. -/
def lasL (l : List Int) : Nat → List Chg
  | 0 => []
  | i + 1 => lasL l i ++ [lasC (l.getD i 0) i]
theorem lasL_length (l : List Int) (n : Nat) : (lasL l n).length = n := by
  induction n with
  | zero => rfl
  | succ n ih => simp [lasL, ih]
/-- What stands under each number behind them: 0, or one more than the place. -/
def hav (l : List Int) : Nat → Nat → Nat
  | 0, _ => 0
  | i + 1, k => if k5 (l.getD i 0) = k then (if (l.getD i 0).tmod 3 = 0 then 0 else i + 1) else hav l i k
theorem hav_next (l : List Int) (i k : Nat) : hav l (i + 1) k = if k5 (l.getD i 0) = k then (if (l.getD i 0).tmod 3 = 0 then 0 else i + 1) else hav l i k := rfl
theorem hav_le (l : List Int) (n k : Nat) : hav l n k ≤ n := by
  induction n with
  | zero => exact Nat.le_refl _
  | succ n ih =>
    unfold hav
    split
    · split
      · omega
      · omega
    · omega
theorem lasL_mem {l : List Int} {n : Nat} {c : Chg} (h : c ∈ lasL l n) : ∃ z i, i < n ∧ c = lasC z i := by
  induction n with
  | zero => cases h
  | succ n ih =>
    rcases List.mem_append.1 h with h | h
    · obtain ⟨z, i, hi, e⟩ := ih h
      exact ⟨z, i, by omega, e⟩
    · exact ⟨_, n, by omega, List.mem_singleton.1 h⟩
/-- The record under a number. -/
def recK (l : List Int) (n k : Nat) : List Chg := if hav l n k = 0 then [] else [⟨keyK k, dig (hav l n k - 1), false⟩]
theorem last_live (l : List Int) (k : Nat) : ∀ n, live (lastC (keyK k) (lasL l n)) = (recK l n k).head?
  | 0 => rfl
  | n + 1 => by
    have ih := last_live l k n
    rw [lasL, lastC_append, lastC_one]
    unfold recK at ih ⊢
    rw [hav_next]
    generalize l.getD n 0 = z
    by_cases e : k5 z = k
    · subst e
      rw [if_pos (show (lasC z n).key = keyK (k5 z) from rfl), if_pos rfl]
      by_cases g : z.tmod 3 = 0
      · rw [if_pos g, if_pos rfl]
        simp [live, ofil, lasC, g]
      · rw [if_neg g, if_neg (by omega)]
        simp [live, ofil, lasC, g]
    · rw [if_neg (show ¬ (lasC z n).key = keyK k from fun h => e (keyK_inj h)), if_neg e]
      exact ih
/-- The records of the first so many numbers. -/
def recsK (l : List Int) (n : Nat) : Nat → List Chg
  | 0 => []
  | m + 1 => recsK l n m ++ recK l n m
theorem recK_mem {l : List Int} {n k : Nat} {c : Chg} (h : c ∈ recK l n k) : c.key = keyK k ∧ c.gone = false := by
  unfold recK at h
  split at h
  · cases h
  · obtain rfl := List.mem_singleton.1 h
    exact ⟨rfl, rfl⟩
theorem recsK_mem {l : List Int} {n m : Nat} {c : Chg} (h : c ∈ recsK l n m) : ∃ k, k < m ∧ c.key = keyK k ∧ c.gone = false := by
  induction m with
  | zero => cases h
  | succ m ih =>
    rcases List.mem_append.1 h with h | h
    · obtain ⟨k, hk, e⟩ := ih h
      exact ⟨k, by omega, e⟩
    · exact ⟨m, by omega, recK_mem h⟩
theorem keyK_lt : ∀ b, b < 5 → ∀ a, a < b → keyK a < keyK b := by
  intro b hb a hab
  unfold keyK dig
  rw [Lib.decDigits_one (by omega), Lib.decDigits_one (by omega)]
  have : ∀ b, b < 5 → ∀ a, a < b → ([107] ++ [UInt8.ofNat (48 + a)] : List UInt8) < [107] ++ [UInt8.ofNat (48 + b)] := by decide
  exact this b hb a hab
theorem recsK_rises (l : List Int) (n : Nat) : ∀ m, m ≤ 5 → Rises (recsK l n m)
  | 0, _ => List.Pairwise.nil
  | m + 1, h => by
    refine List.pairwise_append.2 ⟨recsK_rises l n m (by omega), ?_, fun a ha b hb => ?_⟩
    · unfold recK
      split
      · exact List.Pairwise.nil
      · exact List.pairwise_singleton _ _
    · obtain ⟨k, hk, e, _⟩ := recsK_mem ha
      rw [e, (recK_mem hb).1]
      exact keyK_lt m (by omega) k hk
theorem recsK_last (l : List Int) (n k : Nat) : ∀ m, lastC (keyK k) (recsK l n m) = if k < m then (recK l n k).head? else none
  | 0 => rfl
  | m + 1 => by
    rw [recsK, lastC_append, recsK_last l n k m]
    by_cases e : m = k
    · subst e
      rw [if_neg (Nat.lt_irrefl m), if_pos (Nat.lt_succ_self m)]
      unfold recK
      split
      · rfl
      · rw [lastC_one, if_pos rfl]
        rfl
    · have : lastC (keyK k) (recK l n m) = none := by
        unfold recK
        split
        · rfl
        · rw [lastC_one, if_neg (fun h => e (keyK_inj h))]
      rw [this]
      by_cases h : k < m
      · rw [if_pos h, if_pos (by omega)]
        rfl
      · rw [if_neg h, if_neg (by omega)]
        rfl
/-- What is left behind all changes. -/
theorem las_aft (l : List Int) (n : Nat) : aft (lasL l n) = recsK l n 5 := by
  have hr := recsK_rises l n 5 (by omega)
  refine recs_ext (aft_recs _) ⟨hr, fun x hx => ?_⟩ fun key => ?_
  · obtain ⟨_, _, _, h⟩ := recsK_mem hx
    exact h
  · by_cases h : ∃ k, k < 5 ∧ key = keyK k
    · obtain ⟨k, hk, rfl⟩ := h
      rw [aft_get, last_live, ← lastC_rises _ hr, recsK_last, if_pos hk]
    · rw [getC_none, getC_none]
      · intro x hx e
        obtain ⟨k, hk, e2, _⟩ := recsK_mem hx
        exact h ⟨k, hk, e.symm.trans e2⟩
      · intro x hx e
        obtain ⟨z, i, _, rfl⟩ := lasL_mem (aft_mem hx)
        exact h ⟨k5 z, k5_lt z, e.symm⟩
theorem las_get (l : List Int) (n k : Nat) (hk : k < 5) : getB (keyK k) (recsK l n 5) = decide (0 < hav l n k) ∧ (0 < hav l n k → getV (keyK k) (recsK l n 5) = dig (hav l n k - 1)) := by
  have h : getC (keyK k) (recsK l n 5) = (recK l n k).head? := by rw [← lastC_rises _ (recsK_rises l n 5 (by omega)), recsK_last, if_pos hk]
  unfold getB getV
  rw [h]
  unfold recK
  by_cases e : hav l n k = 0
  · rw [if_pos e]
    simp [e]
  · rw [if_neg e]
    simp
    omega
/-- The keys that are there. -/
def wantK (l : List Int) (n m : Nat) : List (List UInt8) := keysL (recsK l n m)
theorem wantK_next (l : List Int) (n m : Nat) : wantK l n (m + 1) = if 0 < hav l n m then wantK l n m ++ [keyK m] else wantK l n m := by
  unfold wantK keysL
  rw [recsK, List.map_append]
  unfold recK
  by_cases e : hav l n m = 0
  · rw [if_pos e, if_neg (by omega)]
    simp
  · rw [if_neg e, if_pos (by omega)]
    rfl
theorem wantK_length (l : List Int) (n m : Nat) : (wantK l n m).length ≤ m := by
  induction m with
  | zero => exact Nat.le_refl _
  | succ m ih =>
    rw [wantK_next]
    split
    · simp
      omega
    · omega
theorem las_says {K n : Nat} {t : St} (l : List Int) (h : Ok 400 K t) (hr : t.r = []) (hn : n ≤ 30) : (comm t (lasL l n)).1 = .fine ∧ (comm t (lasL l n)).2.r = recsK l n 5 := by
  have hd : ∀ i, i < 31 → (dig i).length ≤ 21 := fun i hi => dig_length (by omega)
  have h1 : (lasL l n).any badKey = false := List.any_eq_false.2 fun c hc => by
    obtain ⟨z, i, hi, rfl⟩ := lasL_mem hc
    have := hd (k5 z) (by have := k5_lt z; omega)
    simp only [badKey, lasC, keyK, Bool.or_eq_true, decide_eq_true_eq, List.length_append, List.length_cons, List.length_nil, not_or]
    omega
  have h2 : (lasL l n).any badVal = false := List.any_eq_false.2 fun c hc => by
    obtain ⟨z, i, hi, rfl⟩ := lasL_mem hc
    have := hd i (by omega)
    have hb : badVal (lasC z i) = false := decide_eq_false (by show ¬ 32768 < (dig i).length; omega)
    rw [hb]
    simp
  have he : aft (t.r ++ lasL l n) = recsK l n 5 := by rw [hr]; exact las_aft l n
  have hl : (recsK l n 5).length ≤ 5 := by have := wantK_length l n 5; unfold wantK keysL at this; rwa [List.length_map] at this
  have hok := aft_ok h h1 h2
  rw [he] at hok
  have hv : Vals 21 (recsK l n 5) := fun c hc => by
    rw [← las_aft] at hc
    obtain ⟨z, i, hi, rfl⟩ := lasL_mem (aft_mem hc)
    exact hd i (by omega)
  have hf := h.fine h1 h2 (by rw [he]; omega) (by rw [he]; exact vals_room hok hv (by omega) (by omega))
  exact ⟨hf, ((h.step (by omega) _).2.2.1 hf).trans he⟩
end Go.Proofs.YtmpklljiddggpaaGreatDoor
