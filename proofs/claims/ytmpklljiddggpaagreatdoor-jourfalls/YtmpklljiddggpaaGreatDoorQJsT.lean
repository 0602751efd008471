/-
  Plain: how the library's stable sort goes, block by block. Conditions: none.
-/
import Derived.Test.YtmpklljiddggpaaGreatDoorQJsW4
namespace Go.Proofs.YtmpklljiddggpaaGreatDoor
open Go.Sort

theorem div_in {n a i : Nat} (hn : 0 < n) (hd : n ∣ a) (h1 : a ≤ i) (h2 : i < a + n) : i / n = a / n := by
  obtain ⟨k, rfl⟩ := hd
  obtain ⟨r, rfl⟩ : ∃ r, i = n * k + r := ⟨i - n * k, by omega⟩
  rw [Nat.mul_div_cancel_left k hn, Nat.mul_add_div hn, Nat.div_eq_of_lt (by omega), Nat.add_zero]
theorem div_next {n a : Nat} (hn : 0 < n) : (a + n) / n = a / n + 1 := Nat.add_div_right a hn
theorem mult_eq {n s a : Nat} (hn : 0 < n) (h1 : n ∣ s) (h2 : n ∣ a) (h3 : s < a + n) (h4 : a < s + n) : s = a := by
  have e1 := div_in (i := s) hn h1 (Nat.le_refl _) (by omega)
  obtain ⟨k, rfl⟩ := h1
  obtain ⟨j, rfl⟩ := h2
  have h5 : k < j + 1 := Nat.lt_of_mul_lt_mul_left (a := n) (by rw [Nat.mul_add, Nat.mul_one]; exact h3)
  have h6 : j < k + 1 := Nat.lt_of_mul_lt_mul_left (a := n) (by rw [Nat.mul_add, Nat.mul_one]; exact h4)
  rw [show k = j by omega]
theorem sortedIn_keep {a b : Nat} {d d' : Array El} (h : SortedIn ltI a b d) (k : ∀ i, a ≤ i → i < b → d'[i]! = d[i]!) : SortedIn ltI a b d' := fun i j h1 h2 h3 => by
  rw [k i h1 (by omega), k j (by omega) h3]
  exact h i j h1 h2 h3
theorem sortedIn_sub {a b a' b' : Nat} {d : Array El} (h : SortedIn ltI a b d) (h1 : a ≤ a') (h2 : b' ≤ b) : SortedIn ltI a' b' d := fun i j k1 k2 k3 => h i j (by omega) k2 (by omega)

/-- Blocks of 20 places, sorted up to a. -/
structure P1 (E d : Array El) (N a : Nat) : Prop where
  perm : PermIn 0 N E d
  same : ∀ i, a ≤ i → i < N → d[i]! = E[i]!
  home : Home 20 d
  done : ∀ s, 20 ∣ s → s + 20 ≤ a → SortedIn ltI s (s + 20) d
  dv : 20 ∣ a
  le : a ≤ N
  size : E.size = N
/-- Blocks of n places, all sorted. -/
structure P2 (E d : Array El) (N n : Nat) : Prop where
  perm : PermIn 0 N E d
  home : Home n d
  sorts : ∀ s, n ∣ s → s < N → SortedIn ltI s (min (s + n) N) d
  pos : 0 < n
  size : E.size = N
/-- Pairs of blocks of n places, merged up to a. -/
structure P3 (E d : Array El) (N n a : Nat) : Prop where
  perm : PermIn 0 N E d
  home2 : Home (n * 2) d
  home : ∀ i, a ≤ i → i < N → d[i]!.2 / n = i / n
  sorts : ∀ s, n ∣ s → a ≤ s → s < N → SortedIn ltI s (min (s + n) N) d
  done : ∀ s, n * 2 ∣ s → s + n * 2 ≤ a → SortedIn ltI s (s + n * 2) d
  dv : n * 2 ∣ a
  le : a ≤ N
  pos : 0 < n
  size : E.size = N

section
variable {E d d' : Array El} {N n a b : Nat}
theorem P1.dsize (h : P1 E d N a) : d.size = N := h.perm.1.trans h.size
theorem P2.dsize (h : P2 E d N n) : d.size = N := h.perm.1.trans h.size
theorem P3.dsize (h : P3 E d N n a) : d.size = N := h.perm.1.trans h.size
theorem p1_start (hE : ∀ i, i < E.size → E[i]!.2 = i) : P1 E E E.size 0 :=
  ⟨permIn_refl _ _ _, fun _ _ _ => rfl, home_start hE, fun s _ h => by omega, ⟨0, rfl⟩, Nat.zero_le _, rfl⟩
theorem P1.cross (h : P1 E d N a) (hE : ∀ i, i < N → E[i]!.2 = i) (hb : b ≤ N) : ∀ p q, a ≤ p → p < q → q < b → d[p]!.2 < d[q]!.2 := fun p q h1 h2 h3 => by
  rw [h.same p h1 (by omega), h.same q (by omega) (by omega), hE p (by omega), hE q (by omega)]
  exact h2
theorem P1.step (h : P1 E d N a) (hb : a + 20 ≤ N) (p : PermIn a (a + 20) d d') (s : SortedIn ltI a (a + 20) d') : P1 E d' N (a + 20) := by
  have hz := h.dsize
  refine ⟨permIn_trans _ _ _ _ _ h.perm (permIn_mono _ _ _ _ _ _ (Nat.zero_le _) hb (by omega) p), fun i h1 h2 => ?_, ?_, fun t h1 h2 => ?_, ?_, hb, h.size⟩
  · rw [p.2.1 i (.inr h1)]
    exact h.same i (by omega) h2
  · exact h.home.perm (q := a / 20) p (by omega) fun i h1 h2 => div_in (by omega) h.dv h1 h2
  · by_cases h3 : t + 20 ≤ a
    · exact sortedIn_keep (h.done t h1 h3) fun i i1 i2 => p.2.1 i (.inl (by omega))
    · obtain rfl := mult_eq (by omega) h1 h.dv (by omega) (by omega)
      exact s
  · obtain ⟨k, hk⟩ := h.dv
    exact ⟨k + 1, by omega⟩
theorem P1.last (h : P1 E d N a) (hb : N < a + 20) (p : PermIn a N d d') (s : SortedIn ltI a N d') : P2 E d' N 20 := by
  have hz := h.dsize
  have hle := h.le
  refine ⟨permIn_trans _ _ _ _ _ h.perm (permIn_mono _ _ _ _ _ _ (Nat.zero_le _) (Nat.le_refl _) (by omega) p), ?_, fun t h1 h2 => ?_, by omega, h.size⟩
  · exact h.home.perm (q := a / 20) p (by omega) fun i h1 h2 => div_in (by omega) h.dv h1 (by omega)
  · by_cases h3 : t + 20 ≤ a
    · rw [Nat.min_eq_left (by omega)]
      exact sortedIn_keep (h.done t h1 h3) fun i i1 i2 => p.2.1 i (.inl (by omega))
    · obtain rfl := mult_eq (by omega) h1 h.dv (by omega) (by omega)
      rw [Nat.min_eq_right (by omega)]
      exact s
theorem P2.start (h : P2 E d N n) : P3 E d N n 0 :=
  ⟨h.perm, h.home.twice, fun i _ hi => h.home i (by rw [h.dsize]; exact hi), fun s h1 _ h2 => h.sorts s h1 h2, fun s _ h2 => by have := h.pos; omega, ⟨0, rfl⟩, Nat.zero_le _, h.pos, h.size⟩
theorem P3.dvn (h : P3 E d N n a) : n ∣ a := Nat.dvd_trans ⟨2, rfl⟩ h.dv
theorem P3.two (h : P3 E d N n a) (h2 : b ≤ N) (h3 : b ≤ a + n * 2) (hm : a + n < N) : Two d a (a + n) b := by
  have hp := h.pos
  refine ⟨?_, ?_, fun i j i1 i2 j1 j2 => ?_⟩
  · have := h.sorts a h.dvn (Nat.le_refl _) (by omega)
    rwa [Nat.min_eq_left (by omega)] at this
  · have := h.sorts (a + n) (Nat.dvd_add h.dvn ⟨1, by omega⟩) (by omega) hm
    exact sortedIn_sub this (Nat.le_refl _) (by omega)
  · have e1 := h.home i i1 (by omega)
    have e2 := h.home j (by omega) (by omega)
    rw [div_in hp h.dvn i1 i2] at e1
    rw [div_in hp (Nat.dvd_add h.dvn ⟨1, by omega⟩) j1 (by omega), div_next hp] at e2
    rcases Nat.lt_or_ge d[i]!.2 d[j]!.2 with k | k
    · exact k
    · have := Nat.div_le_div_right (c := n) k
      omega
theorem P3.step (h : P3 E d N n a) (hb : a + n * 2 ≤ N) (p : PermIn a (a + n * 2) d d') (s : SortedIn ltI a (a + n * 2) d') : P3 E d' N n (a + n * 2) := by
  have hz := h.dsize
  have hp := h.pos
  refine ⟨permIn_trans _ _ _ _ _ h.perm (permIn_mono _ _ _ _ _ _ (Nat.zero_le _) hb (by omega) p), ?_, fun i h1 h2 => ?_, fun t h1 h2 h3 => ?_, fun t h1 h2 => ?_, Nat.dvd_add h.dv ⟨1, by omega⟩, hb, hp, h.size⟩
  · exact h.home2.perm (q := a / (n * 2)) p (by omega) fun i h1 h2 => div_in (by omega) h.dv h1 h2
  · rw [p.2.1 i (.inr h1)]
    exact h.home i (by omega) h2
  · exact sortedIn_keep (h.sorts t h1 (by omega) h3) fun i i1 i2 => p.2.1 i (.inr (by omega))
  · by_cases h3 : t + n * 2 ≤ a
    · exact sortedIn_keep (h.done t h1 h3) fun i i1 i2 => p.2.1 i (.inl (by omega))
    · obtain rfl := mult_eq (by omega) h1 h.dv (by omega) (by omega)
      exact s
theorem P3.last (h : P3 E d N n a) (hb : N < a + n * 2) (p : PermIn a N d d') (s : SortedIn ltI a N d') : P2 E d' N (n * 2) := by
  have hz := h.dsize
  have hle := h.le
  have hp := h.pos
  refine ⟨permIn_trans _ _ _ _ _ h.perm (permIn_mono _ _ _ _ _ _ (Nat.zero_le _) (Nat.le_refl _) (by omega) p), ?_, fun t h1 h2 => ?_, by omega, h.size⟩
  · exact h.home2.perm (q := a / (n * 2)) p (by omega) fun i h1 h2 => div_in (by omega) h.dv h1 (by omega)
  · by_cases h3 : t + n * 2 ≤ a
    · rw [Nat.min_eq_left (by omega)]
      exact sortedIn_keep (h.done t h1 h3) fun i i1 i2 => p.2.1 i (.inl (by omega))
    · obtain rfl := mult_eq (by omega) h1 h.dv (by omega) (by omega)
      rw [Nat.min_eq_right (by omega)]
      exact s
theorem P3.rest (h : P3 E d N n a) (hb : N ≤ a + n) : SortedIn ltI a N d := by
  by_cases ha : a < N
  · have := h.sorts a h.dvn (Nat.le_refl _) ha
    rwa [Nat.min_eq_right (by omega)] at this
  · exact fun i j h1 h2 h3 => by omega
theorem P2.whole (h : P2 E d N n) (hn : N ≤ n) : SortedIn ltI 0 N d := by
  by_cases ha : 0 < N
  · have := h.sorts 0 ⟨0, rfl⟩ ha
    rwa [Nat.min_eq_right (by omega)] at this
  · exact fun i j h1 h2 h3 => by omega
end
end Go.Proofs.YtmpklljiddggpaaGreatDoor
