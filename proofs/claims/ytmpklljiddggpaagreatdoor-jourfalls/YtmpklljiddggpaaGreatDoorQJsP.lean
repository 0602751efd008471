/-
  Plain: what a stable sort does to a row: ranges exchanged, a rotation, two sorted parts merged; elements bear the place from which they came. Conditions: none.
-/
import Derived.Test.YtmpklljiddggpaaGreatDoorQWords
import Derived.Sort.LotA
namespace Go.Proofs.YtmpklljiddggpaaGreatDoor
open Go.Sort

section
variable {α : Type} [Inhabited α]

theorem at_eq (d : Array α) {i j : Nat} (h : i = j) : d[i]! = d[j]! := by rw [h]
theorem ext_at {a b : Array α} (hs : a.size = b.size) (h : ∀ k : Nat, a[k]! = b[k]!) : a = b :=
  Array.ext hs fun k h1 h2 => by have := h k; rwa [getElem!_pos a k h1, getElem!_pos b k h2] at this

/-- n places from a on exchanged with those from b on. -/
def swapR (d : Array α) (a b : Nat) : Nat → Array α
  | 0 => d
  | n + 1 => swp (swapR d a b n) (a + n) (b + n)
theorem swapR_size (d : Array α) (a b : Nat) : ∀ n, (swapR d a b n).size = d.size
  | 0 => rfl
  | n + 1 => by rw [swapR, swp_size, swapR_size d a b n]
theorem swapR_get (d : Array α) (a b : Nat) : ∀ n, a + n ≤ b → b + n ≤ d.size → ∀ k, (swapR d a b n)[k]! = if a ≤ k ∧ k < a + n then d[k - a + b]! else if b ≤ k ∧ k < b + n then d[k - b + a]! else d[k]!
  | 0, _, _, k => by rw [swapR, if_neg (by omega), if_neg (by omega)]
  | n + 1, h, hb, k => by
    have ih := swapR_get d a b n (by omega) (by omega)
    rw [swapR, swp_get _ (by rw [swapR_size]; omega) (by rw [swapR_size]; omega), ih, ih, ih]
    by_cases h1 : k = b + n
    · rw [if_pos h1, if_neg (by omega), if_neg (by omega), if_neg (by omega), if_pos (by omega)]
      exact at_eq d (by omega)
    · rw [if_neg h1]
      by_cases h2 : k = a + n
      · rw [if_pos h2, if_neg (by omega), if_neg (by omega), if_pos (by omega)]
        exact at_eq d (by omega)
      · rw [if_neg h2]
        by_cases h3 : a ≤ k ∧ k < a + n
        · rw [if_pos h3, if_pos (c := a ≤ k ∧ k < a + (n + 1)) (by omega)]
        · rw [if_neg h3, if_neg (c := a ≤ k ∧ k < a + (n + 1)) (by omega)]
          by_cases h4 : b ≤ k ∧ k < b + n
          · rw [if_pos h4, if_pos (c := b ≤ k ∧ k < b + (n + 1)) (by omega)]
          · rw [if_neg h4, if_neg (c := b ≤ k ∧ k < b + (n + 1)) (by omega)]
theorem swapR_perm (d : Array α) (a b lo hi : Nat) (h1 : lo ≤ a) (h2 : lo ≤ b) (hs : hi ≤ d.size) : ∀ n, a + n ≤ hi → b + n ≤ hi → PermIn lo hi d (swapR d a b n)
  | 0, _, _ => permIn_refl _ _ _
  | n + 1, ha, hb => permIn_trans _ _ _ _ _ (swapR_perm d a b lo hi h1 h2 hs n (by omega) (by omega)) (swp_permIn _ _ _ _ _ (by omega) (by omega) (by omega) (by omega) (by rw [swapR_size]; omega))

/-- What stands in [m, b) comes ahead of what stands in [a, m). -/
def rotF (d : Array α) (a m b : Nat) : Array α :=
  (Array.range d.size).map fun k => if a ≤ k ∧ k < a + (b - m) then d[k + (m - a)]! else if a + (b - m) ≤ k ∧ k < b then d[k - (b - m)]! else d[k]!
theorem rotF_size (d : Array α) (a m b : Nat) : (rotF d a m b).size = d.size := by simp [rotF]
theorem rotF_get (d : Array α) (a m b : Nat) (h1 : a ≤ m) (h2 : m ≤ b) (hb : b ≤ d.size) (k : Nat) :
    (rotF d a m b)[k]! = if a ≤ k ∧ k < a + (b - m) then d[k + (m - a)]! else if a + (b - m) ≤ k ∧ k < b then d[k - (b - m)]! else d[k]! := by
  by_cases hk : k < d.size
  · simp [rotF, hk]
  · rw [if_neg (by omega), if_neg (by omega), getElem!_neg _ k (by rw [rotF_size]; exact hk), getElem!_neg d k hk]
theorem rot_first (x : Array α) (i j m : Nat) (hi : i ≤ m) (hj : j < i) (hs : m + j ≤ x.size) : rotF (swapR x (m - i) m j) (m - i + j) m (m + j) = rotF x (m - i) m (m + j) := by
  refine ext_at (by simp [rotF_size, swapR_size]) fun k => ?_
  rw [rotF_get _ _ _ _ (by omega) (by omega) (by rw [swapR_size]; exact hs), rotF_get _ _ _ _ (by omega) (by omega) hs]
  simp only [swapR_get x (m - i) m j (by omega) hs]
  repeat' split
  all_goals first
    | exact at_eq x (by omega)
    | (exfalso; omega)
theorem rot_second (x : Array α) (i j m : Nat) (hi : i ≤ m) (hj : i < j) (hs : m + j ≤ x.size) : rotF (swapR x (m - i) (m + j - i) i) (m - i) m (m + j - i) = rotF x (m - i) m (m + j) := by
  refine ext_at (by simp [rotF_size, swapR_size]) fun k => ?_
  rw [rotF_get _ _ _ _ (by omega) (by omega) (by rw [swapR_size]; omega), rotF_get _ _ _ _ (by omega) (by omega) hs]
  simp only [swapR_get x (m - i) (m + j - i) i (by omega) (by omega)]
  repeat' split
  all_goals first
    | exact at_eq x (by omega)
    | (exfalso; omega)
theorem rot_last (x : Array α) (i m : Nat) (hi : i ≤ m) (hs : m + i ≤ x.size) : swapR x (m - i) m i = rotF x (m - i) m (m + i) := by
  refine ext_at (by simp [rotF_size, swapR_size]) fun k => ?_
  rw [rotF_get _ _ _ _ (by omega) (by omega) hs, swapR_get x (m - i) m i (by omega) hs]
  repeat' split
  all_goals first
    | exact at_eq x (by omega)
    | (exfalso; omega)
theorem rot_none (x : Array α) (a m b : Nat) (h1 : a ≤ m) (h2 : m ≤ b) (hb : b ≤ x.size) (h : a = m ∨ m = b) : rotF x a m b = x := by
  refine ext_at (rotF_size ..) fun k => ?_
  rw [rotF_get _ _ _ _ h1 h2 hb]
  repeat' split
  all_goals first
    | rfl
    | exact at_eq x (by omega)
/-- One element goes up by one place. -/
theorem rot_up (d : Array α) (a k : Nat) (h : a ≤ k) (hs : k + 2 ≤ d.size) : swp (rotF d a (a + 1) (k + 1)) k (k + 1) = rotF d a (a + 1) (k + 2) := by
  refine ext_at (by rw [swp_size, rotF_size, rotF_size]) fun i => ?_
  rw [swp_get _ (by rw [rotF_size]; omega) (by rw [rotF_size]; omega)]
  simp only [rotF_get d a (a + 1) (k + 1) (by omega) (by omega) (by omega), rotF_get d a (a + 1) (k + 2) (by omega) (by omega) hs]
  repeat' split
  all_goals first
    | exact at_eq d (by omega)
    | (exfalso; omega)
/-- One element goes down by one place. -/
theorem rot_down (d : Array α) (k m : Nat) (hk : k < m) (hs : m + 1 ≤ d.size) : swp (rotF d (k + 1) m (m + 1)) (k + 1) k = rotF d k m (m + 1) := by
  refine ext_at (by rw [swp_size, rotF_size, rotF_size]) fun i => ?_
  rw [swp_get _ (by rw [rotF_size]; omega) (by rw [rotF_size]; omega)]
  simp only [rotF_get d (k + 1) m (m + 1) (by omega) (by omega) (by omega), rotF_get d k m (m + 1) (by omega) (by omega) hs]
  repeat' split
  all_goals first
    | exact at_eq d (by omega)
    | (exfalso; omega)
theorem rot_perm (d : Array α) (a m b : Nat) (h1 : a ≤ m) (h2 : m ≤ b) (hb : b ≤ d.size) : PermIn a b d (rotF d a m b) := by
  refine ⟨rotF_size .., fun i hi => ?_, ?_⟩
  · rw [rotF_get _ _ _ _ h1 h2 hb, if_neg (by omega), if_neg (by omega)]
  · rw [extract_toList _ a b (by rw [rotF_size]; exact hb), extract_toList d a b hb]
    have e1 : (List.range' a (b - a)).map (fun i => d[i]!) = (List.range' a (m - a)).map (fun i => d[i]!) ++ (List.range' m (b - m)).map (fun i => d[i]!) := by
      rw [← List.map_append]
      have := List.range'_append_1 (s := a) (m := m - a) (n := b - m)
      rw [show a + (m - a) = m by omega, show m - a + (b - m) = b - a by omega] at this
      rw [this]
    have e2 : (List.range' a (b - a)).map (fun i => (rotF d a m b)[i]!) = (List.range' m (b - m)).map (fun i => d[i]!) ++ (List.range' a (m - a)).map (fun i => d[i]!) := by
      have := List.range'_append_1 (s := a) (m := b - m) (n := m - a)
      rw [show b - m + (m - a) = b - a by omega] at this
      rw [← this, List.map_append]
      congr 1
      · refine List.ext_getElem (by simp) fun i h3 h4 => ?_
        have : i < b - m := by simpa using h3
        simp only [List.getElem_map, List.getElem_range', Nat.one_mul]
        rw [rotF_get _ _ _ _ h1 h2 hb, if_pos (by omega)]
        exact at_eq d (by omega)
      · refine List.ext_getElem (by simp) fun i h3 h4 => ?_
        have : i < m - a := by simpa using h3
        simp only [List.getElem_map, List.getElem_range', Nat.one_mul]
        rw [rotF_get _ _ _ _ h1 h2 hb, if_neg (by omega), if_pos (by omega)]
        exact at_eq d (by omega)
    rw [e1, e2]
    exact List.perm_append_comm

variable {lt : α → α → Bool}
/-- Two sorted parts, rotated about a place that parts them: four sorted parts, and all that stands ahead of the middle is not greater than what stands behind. -/
theorem rot_halves (hS : SWO lt) {d : Array α} {a s m e b mid : Nat} (h1 : a ≤ s) (h2 : s ≤ m) (h3 : m ≤ e) (h4 : e ≤ b) (h5 : b ≤ d.size) (hmid : mid = s + (e - m)) (hl : SortedIn lt a m d) (hr : SortedIn lt m b d)
    (c1 : a < s → e < b → lt d[e]! d[s - 1]! = false) (c2 : s < m → m < e → lt d[s]! d[e - 1]! = false) :
    SortedIn lt a s (rotF d s m e) ∧ SortedIn lt s mid (rotF d s m e) ∧ SortedIn lt mid e (rotF d s m e) ∧ SortedIn lt e b (rotF d s m e) ∧
    (∀ i j, a ≤ i → i < mid → mid ≤ j → j < b → lt (rotF d s m e)[j]! (rotF d s m e)[i]! = false) := by
  subst hmid
  have g := rotF_get d s m e h2 h3 (by omega)
  have ge : ∀ i j, a ≤ i → i ≤ j → j < m → lt d[j]! d[i]! = false := fun i j x y z => by
    rcases Nat.eq_or_lt_of_le y with rfl | y
    · exact hS.irrefl _
    · exact hl i j x y z
  have gr : ∀ i j, m ≤ i → i ≤ j → j < b → lt d[j]! d[i]! = false := fun i j x y z => by
    rcases Nat.eq_or_lt_of_le y with rfl | y
    · exact hS.irrefl _
    · exact hr i j x y z
  refine ⟨fun i j x y z => ?_, fun i j x y z => ?_, fun i j x y z => ?_, fun i j x y z => ?_, fun i j x y z u => ?_⟩
  · rw [g, g, if_neg (by omega), if_neg (by omega), if_neg (by omega), if_neg (by omega)]
    exact hl i j x y (by omega)
  · rw [g, g, if_pos (by omega), if_pos (by omega)]
    exact hr _ _ (by omega) (by omega) (by omega)
  · rw [g, g, if_neg (by omega), if_pos (by omega), if_neg (by omega), if_pos (by omega)]
    exact hl _ _ (by omega) (by omega) (by omega)
  · rw [g, g, if_neg (by omega), if_neg (by omega), if_neg (by omega), if_neg (by omega)]
    exact hr i j (by omega) y z
  · rw [g, g]
    by_cases ha : i < s
    · rw [if_neg (c := s ≤ i ∧ i < s + (e - m)) (by omega), if_neg (c := s + (e - m) ≤ i ∧ i < e) (by omega), if_neg (c := s ≤ j ∧ j < s + (e - m)) (by omega)]
      by_cases hb : j < e
      · rw [if_pos (by omega)]
        exact ge i _ x (by omega) (by omega)
      · rw [if_neg (by omega)]
        exact hS.ntrans _ _ _ (gr e j h3 (by omega) u) (hS.ntrans _ _ _ (c1 (by omega) (by omega)) (ge i (s - 1) x (by omega) (by omega)))
    · rw [if_pos (c := s ≤ i ∧ i < s + (e - m)) (by omega), if_neg (c := s ≤ j ∧ j < s + (e - m)) (by omega)]
      by_cases hb : j < e
      · rw [if_pos (by omega)]
        exact hS.ntrans _ _ _ (ge s _ h1 (by omega) (by omega)) (hS.ntrans _ _ _ (c2 (by omega) (by omega)) (gr _ (e - 1) (by omega) (by omega) (by omega)))
      · rw [if_neg (by omega)]
        exact gr _ j (by omega) (by omega) u
theorem sorted_join {d d1 d2 : Array α} {a mid b : Nat} (_h2 : mid ≤ b) (hb : b ≤ d.size) (hc : ∀ i j, a ≤ i → i < mid → mid ≤ j → j < b → lt d[j]! d[i]! = false)
    (p1 : PermIn a mid d d1) (s1 : SortedIn lt a mid d1) (p2 : PermIn mid b d1 d2) (s2 : SortedIn lt mid b d2) : SortedIn lt a b d2 := by
  have z1 : d1.size = d.size := p1.1
  have k1 : ∀ i j, a ≤ i → i < mid → mid ≤ j → j < b → lt d1[j]! d1[i]! = false := fun i j x y z u => by
    rw [p1.2.1 j (.inr z)]
    exact permIn_all d d1 a mid (fun v => lt d[j]! v = false) (by omega) p1 (fun i x y => hc i j x y z u) i x y
  have k2 : ∀ i j, a ≤ i → i < mid → mid ≤ j → j < b → lt d2[j]! d2[i]! = false := fun i j x y z u => by
    rw [p2.2.1 i (.inl y)]
    exact permIn_all d1 d2 mid b (fun v => lt v d1[i]! = false) (by omega) p2 (fun j z u => k1 i j x y z u) j z u
  intro i j x y z
  by_cases hi : i < mid
  · by_cases hj : j < mid
    · rw [p2.2.1 i (.inl hi), p2.2.1 j (.inl hj)]
      exact s1 i j x y hj
    · exact k2 i j x hi (by omega) z
  · exact s2 i j (by omega) y z
theorem sorted_one (hS : SWO lt) {d : Array α} {a m b : Nat} (h1 : SortedIn lt a m d) (h2 : SortedIn lt m b d) (hc : a < m → m < b → lt d[m]! d[m - 1]! = false) : SortedIn lt a b d := by
  have ge : ∀ i j, a ≤ i → i ≤ j → j < m → lt d[j]! d[i]! = false := fun i j x y z => by
    rcases Nat.eq_or_lt_of_le y with rfl | y
    · exact hS.irrefl _
    · exact h1 i j x y z
  have gr : ∀ i j, m ≤ i → i ≤ j → j < b → lt d[j]! d[i]! = false := fun i j x y z => by
    rcases Nat.eq_or_lt_of_le y with rfl | y
    · exact hS.irrefl _
    · exact h2 i j x y z
  intro i j x y z
  by_cases hi : i < m
  · by_cases hj : j < m
    · exact h1 i j x y hj
    · exact hS.ntrans _ _ _ (gr m j (Nat.le_refl _) (by omega) z) (hS.ntrans _ _ _ (hc (by omega) (by omega)) (ge i (m - 1) x (by omega) (by omega)))
  · exact h2 i j (by omega) y z
/-- The first element, put behind those that are less. -/
theorem rot_in_first (hS : SWO lt) {d : Array α} {a i b : Nat} (h1 : a + 1 ≤ i) (h2 : i ≤ b) (hb : b ≤ d.size) (hr : SortedIn lt (a + 1) b d) (c1 : ∀ k, a + 1 ≤ k → k < i → lt d[k]! d[a]! = true) (c2 : i < b → lt d[i]! d[a]! = false) : SortedIn lt a b (rotF d a (a + 1) i) := by
  have g := rotF_get d a (a + 1) i (by omega) h1 (by omega)
  have gr : ∀ p q, a + 1 ≤ p → p ≤ q → q < b → lt d[q]! d[p]! = false := fun i j x y z => by
    rcases Nat.eq_or_lt_of_le y with rfl | y
    · exact hS.irrefl _
    · exact hr i j x y z
  intro p q x y z
  rw [g, g]
  by_cases hp : p < a + (i - (a + 1))
  · rw [if_pos (c := a ≤ p ∧ p < a + (i - (a + 1))) (by omega)]
    by_cases hq : q < a + (i - (a + 1))
    · rw [if_pos (by omega)]
      exact gr _ _ (by omega) (by omega) (by omega)
    · rw [if_neg (by omega)]
      by_cases hq2 : q < i
      · rw [if_pos (by omega)]
        have : d[q - (i - (a + 1))]! = d[a]! := at_eq d (by omega)
        rw [this]
        exact hS.asymmA (c1 _ (by omega) (by omega))
      · rw [if_neg (by omega)]
        exact gr _ _ (by omega) (by omega) z
  · rw [if_neg (c := a ≤ p ∧ p < a + (i - (a + 1))) (by omega), if_neg (c := a ≤ q ∧ q < a + (i - (a + 1))) (by omega)]
    by_cases hp2 : p < i
    · rw [if_pos (c := a + (i - (a + 1)) ≤ p ∧ p < i) (by omega), if_neg (by omega)]
      have : d[p - (i - (a + 1))]! = d[a]! := at_eq d (by omega)
      rw [this]
      exact hS.ntrans _ _ _ (gr i q h1 (by omega) z) (c2 (by omega))
    · rw [if_neg (by omega), if_neg (by omega)]
      exact gr _ _ (by omega) (by omega) z
/-- The last element, put ahead of those that are greater. -/
theorem rot_in_last (hS : SWO lt) {d : Array α} {a i m : Nat} (h1 : a ≤ i) (h2 : i ≤ m) (hb : m + 1 ≤ d.size) (hl : SortedIn lt a m d) (c1 : a < i → lt d[m]! d[i - 1]! = false) (c2 : ∀ k, i ≤ k → k < m → lt d[m]! d[k]! = true) : SortedIn lt a (m + 1) (rotF d i m (m + 1)) := by
  have g := rotF_get d i m (m + 1) h2 (by omega) hb
  have gl : ∀ p q, a ≤ p → p ≤ q → q < m → lt d[q]! d[p]! = false := fun i j x y z => by
    rcases Nat.eq_or_lt_of_le y with rfl | y
    · exact hS.irrefl _
    · exact hl i j x y z
  intro p q x y z
  rw [g, g]
  by_cases hp : p < i
  · rw [if_neg (c := i ≤ p ∧ p < i + (m + 1 - m)) (by omega), if_neg (c := i + (m + 1 - m) ≤ p ∧ p < m + 1) (by omega)]
    by_cases hq : q < i
    · rw [if_neg (by omega), if_neg (by omega)]
      exact gl _ _ x (by omega) (by omega)
    · by_cases hq2 : q = i
      · rw [if_pos (by omega)]
        have : d[q + (m - i)]! = d[m]! := at_eq d (by omega)
        rw [this]
        exact hS.ntrans _ _ _ (c1 (by omega)) (gl p (i - 1) x (by omega) (by omega))
      · rw [if_neg (by omega), if_pos (by omega)]
        exact gl _ _ x (by omega) (by omega)
  · by_cases hp2 : p = i
    · rw [if_pos (c := i ≤ p ∧ p < i + (m + 1 - m)) (by omega), if_neg (by omega), if_pos (by omega)]
      have : d[p + (m - i)]! = d[m]! := at_eq d (by omega)
      rw [this]
      exact hS.asymmA (c2 _ (by omega) (by omega))
    · rw [if_neg (c := i ≤ p ∧ p < i + (m + 1 - m)) (by omega), if_pos (c := i + (m + 1 - m) ≤ p ∧ p < m + 1) (by omega), if_neg (by omega), if_pos (by omega)]
      exact gl _ _ (by omega) (by omega) (by omega)
end
end Go.Proofs.YtmpklljiddggpaaGreatDoor
