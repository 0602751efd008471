/-
  Plain: changes of records; a stable sort of them by their keys; the last change of each key. Conditions: none.
-/
import Derived.Test.YtmpklljiddggpaaGreatDoorQJsP
import Derived.Shelf.SlSortCmp.InsertionK
namespace Go.Proofs.YtmpklljiddggpaaGreatDoor
open Go.Sort

/-- A change of a record. -/
structure Chg where
  key : List UInt8
  val : List UInt8
  gone : Bool
instance : Inhabited Chg := ⟨⟨[], [], false⟩⟩

/-- Keys as they stand to one another. -/
def cmpK (x y : List UInt8) : Int := if x < y then -1 else if y < x then 1 else 0
theorem cmpK_neg {x y : List UInt8} : cmpK x y < 0 ↔ x < y := by
  unfold cmpK
  split
  · simp [*]
  · split <;> simp [*]
theorem lt_irr (x : List UInt8) : ¬ x < x := List.lt_irrefl x
theorem lt_tr {x y z : List UInt8} (h : x < y) (k : y < z) : x < z := List.lt_trans h k
theorem lt_asy {x y : List UInt8} (h : x < y) : ¬ y < x := fun k => lt_irr _ (lt_tr h k)
theorem lt_tot {x y : List UInt8} (h : ¬ x < y) (k : ¬ y < x) : x = y := List.le_antisymm (List.not_lt.1 k) (List.not_lt.1 h)
theorem cmpK_zero {x y : List UInt8} : cmpK x y = 0 ↔ x = y := by
  unfold cmpK
  constructor
  · intro h
    split at h
    · cases h
    · split at h
      · cases h
      · exact lt_tot ‹_› ‹_›
  · rintro rfl
    simp [lt_irr]

/-- An element of the sort: a change, and the place from which it came. -/
abbrev El := Chg × Nat
def cfE (x y : El) : Int := cmpK x.1.key y.1.key
/-- By keys, then by places. -/
def ltI (x y : El) : Bool := decide (x.1.key < y.1.key) || (decide (x.1.key = y.1.key) && decide (x.2 < y.2))
theorem ltI_iff {x y : El} : ltI x y = true ↔ x.1.key < y.1.key ∨ (x.1.key = y.1.key ∧ x.2 < y.2) := by simp [ltI]
theorem ltI_no {x y : El} : ltI x y = false ↔ ¬ x.1.key < y.1.key ∧ (x.1.key = y.1.key → y.2 ≤ x.2) := by
  rw [← Bool.not_eq_true, ltI_iff]
  constructor
  · intro h
    exact ⟨fun k => h (.inl k), fun e => by rcases Nat.lt_or_ge x.2 y.2 with k | k; exact absurd (.inr ⟨e, k⟩) h; exact k⟩
  · rintro ⟨h1, h2⟩ (h | ⟨e, h⟩)
    · exact h1 h
    · have := h2 e; omega
theorem swoI : SWO ltI where
  irrefl x := ltI_no.2 ⟨lt_irr _, fun _ => Nat.le_refl _⟩
  trans x y z h k := by
    rw [ltI_iff] at h k ⊢
    rcases h with h | ⟨e, h⟩
    · rcases k with k | ⟨f, k⟩
      · exact .inl (lt_tr h k)
      · exact .inl (f ▸ h)
    · rcases k with k | ⟨f, k⟩
      · exact .inl (e ▸ k)
      · exact .inr ⟨e.trans f, by omega⟩
  ntrans x y z h k := by
    rw [ltI_no] at h k ⊢
    refine ⟨fun g => ?_, fun e => ?_⟩
    · by_cases hxy : y.1.key < x.1.key
      · exact k.1 (lt_tr hxy g)
      · exact k.1 ((lt_tot h.1 hxy) ▸ g)
    · have h1 : x.1.key = y.1.key := by
        refine lt_tot h.1 fun g => ?_
        exact k.1 (e ▸ g)
      have h2 := h.2 h1
      have h3 := k.2 (h1 ▸ e)
      omega
theorem lt_as {x y : El} (h : x.2 < y.2) : ltI y x = Proofs.ltOf cfE y x := by
  rw [Bool.eq_iff_iff, ltI_iff]
  simp only [Proofs.ltOf, cfE, decide_eq_true_eq, cmpK_neg]
  constructor
  · rintro (h1 | ⟨_, h2⟩)
    · exact h1
    · omega
  · exact .inl
theorem ltI_cf {x y : El} (h : x.2 < y.2) : ltI y x = decide (cfE y x < 0) := lt_as h

theorem insInner_perm {α : Type} [Inhabited α] (lt : α → α → Bool) (a i : Nat) : ∀ (j : Nat) (d : Array α), j ≤ i → i < d.size → a ≤ j → PermIn a (i + 1) d (insInner lt a j d)
  | 0, d, _, _, _ => permIn_refl _ _ _
  | j + 1, d, hj, hi, ha => by
    unfold insInner
    split
    · rename_i h
      simp only [Bool.and_eq_true, decide_eq_true_eq] at h
      exact permIn_trans _ _ _ _ _ (swp_permIn d a (i + 1) (j + 1) j (by omega) (by omega) (by omega) (by omega) (by omega)) (insInner_perm lt a i j _ (by omega) (by rw [swp_size]; exact hi) (by omega))
    · exact permIn_refl _ _ _
theorem insInner_same (a : Nat) : ∀ (j : Nat) (d : Array El), j < d.size → (∀ p, a ≤ p → p < j → d[p]!.2 < d[j]!.2) → insInner (Proofs.ltOf cfE) a j d = insInner ltI a j d
  | 0, _, _, _ => rfl
  | j + 1, d, hj, h => by
    unfold insInner
    by_cases ha : j + 1 > a
    · rw [lt_as (h j (by omega) (by omega))]
      split
      · refine insInner_same a j _ (by rw [swp_size]; omega) fun p h1 h2 => ?_
        rw [swp_get d hj (by omega), swp_get d hj (by omega), if_neg (by omega), if_neg (by omega), if_pos rfl]
        exact h p h1 (by omega)
      · rfl
    · simp [ha]
theorem insOuter_same (a b : Nat) : ∀ (n i : Nat) (d : Array El), b - i = n → a < i → b ≤ d.size → (∀ p q, a ≤ p → p < q → i ≤ q → q < b → d[p]!.2 < d[q]!.2) → insOuter (Proofs.ltOf cfE) a b i d = insOuter ltI a b i d
  | 0, i, d, hn, _, _, _ => by
    rw [show insOuter (Proofs.ltOf cfE) a b i d = d from by rw [insOuter, if_neg (by omega)], show insOuter ltI a b i d = d from by rw [insOuter, if_neg (by omega)]]
  | n + 1, i, d, hn, ha, hb, h => by
    rw [show insOuter (Proofs.ltOf cfE) a b i d = insOuter (Proofs.ltOf cfE) a b (i + 1) (insInner (Proofs.ltOf cfE) a i d) from by rw [insOuter, if_pos (by omega)], show insOuter ltI a b i d = insOuter ltI a b (i + 1) (insInner ltI a i d) from by rw [insOuter, if_pos (by omega)], insInner_same a i d (by omega) fun p h1 h2 => h p i h1 h2 (Nat.le_refl _) (by omega)]
    have hp := insInner_perm ltI a i i d (Nat.le_refl _) (by omega) (by omega)
    refine insOuter_same a b n (i + 1) _ (by omega) (by omega) (by rw [hp.1]; exact hb) fun p q h1 h2 h3 h4 => ?_
    rw [hp.2.1 q (.inr h3)]
    by_cases hpi : p < i + 1
    · exact permIn_all d _ a (i + 1) (fun x => x.2 < d[q]!.2) (by omega) hp (fun r h5 h6 => h r q h5 (by omega) (by omega) h4) p h1 hpi
    · rw [hp.2.1 p (.inr (by omega))]
      exact h p q h1 h2 (by omega) h4
theorem ins_same {d : Array El} {a b : Nat} (hb : b ≤ d.size) (h : ∀ p q, a ≤ p → p < q → q < b → d[p]!.2 < d[q]!.2) : Sort.insertionSort (Proofs.ltOf cfE) d a b = Sort.insertionSort ltI d a b :=
  insOuter_same a b _ (a + 1) d rfl (by omega) hb fun p q h1 h2 _ h4 => h p q h1 h2 h4

/-! ### each element at home in its block -/
/-- Each element stands in the block of n places from which it came. -/
def Home (n : Nat) (d : Array El) : Prop := ∀ i, i < d.size → d[i]!.2 / n = i / n
theorem Home.cross {n : Nat} {d : Array El} (h : Home n d) {i j : Nat} (hi : i < d.size) (hj : j < d.size) (hij : i / n < j / n) : d[i]!.2 < d[j]!.2 := by
  have h1 := h i hi
  have h2 := h j hj
  rcases Nat.lt_or_ge d[i]!.2 d[j]!.2 with k | k
  · exact k
  · have := Nat.div_le_div_right (c := n) k
    omega
theorem Home.perm {n a b q : Nat} {d d' : Array El} (h : Home n d) (hp : PermIn a b d d') (hb : b ≤ d.size) (hq : ∀ i, a ≤ i → i < b → i / n = q) : Home n d' := by
  intro i hi
  rw [hp.1] at hi
  by_cases h1 : a ≤ i ∧ i < b
  · rw [hq i h1.1 h1.2]
    exact permIn_all d d' a b (fun x => x.2 / n = q) hb hp (fun k k1 k2 => by rw [h k (by omega), hq k k1 k2]) i h1.1 h1.2
  · rw [hp.2.1 i (by omega)]
    exact h i hi
theorem Home.twice {n : Nat} {d : Array El} (h : Home n d) : Home (n * 2) d := fun i hi => by
  rw [← Nat.div_div_eq_div_mul, ← Nat.div_div_eq_div_mul, h i hi]
theorem home_start {n : Nat} {d : Array El} (h : ∀ i, i < d.size → d[i]!.2 = i) : Home n d := fun i hi => by rw [h i hi]

/-! ### lists -/
/-- A list's elements, with the places at which they stand. -/
def els (l : List Chg) : Array El := l.zipIdx.toArray
theorem els_size (l : List Chg) : (els l).size = l.length := by simp [els]
theorem els_at (l : List Chg) (i : Nat) (h : i < l.length) : (els l)[i]! = (l[i], i) := by
  rw [getElem!_pos _ i (by rw [els_size]; exact h)]
  simp [els]
/-- For each key the sorted list has the same changes in the same order. -/
theorem stable_filter {l : List Chg} {d : Array El} (hp : PermIn 0 (els l).size (els l) d) (hs : SortedIn ltI 0 (els l).size d) (k : List UInt8) :
    (d.toList.map (·.1)).filter (fun c => decide (c.key = k)) = l.filter (fun c => decide (c.key = k)) := by
  have hsz : d.size = (els l).size := hp.1
  have hperm : d.toList.Perm l.zipIdx := by
    have := hp.2.2
    rw [← hsz, Array.extract_size, hsz, Array.extract_size] at this
    exact this
  have key : d.toList.filter (fun x => decide (x.1.key = k)) = l.zipIdx.filter (fun x => decide (x.1.key = k)) := by
    refine List.Perm.eq_of_pairwise (le := fun x y => x.2 ≤ y.2) ?_ ?_ ?_ (hperm.filter _)
    · intro x y hx hy h1 h2
      have hx := hperm.mem_iff.1 (List.mem_filter.1 hx).1
      have hy := (List.mem_filter.1 hy).1
      rw [List.mem_zipIdx_iff_getElem?] at hx hy
      have e : x.2 = y.2 := by omega
      rw [e, hy] at hx
      cases x
      cases y
      simp only [Option.some.injEq] at hx e
      rw [hx, e]
    · rw [List.pairwise_filter, List.pairwise_iff_getElem]
      intro i j hi hj hij h1 h2
      have := hs i j (Nat.zero_le _) hij (by rw [← hsz]; simpa using hj)
      rw [getElem!_pos d i (by simpa using hi), getElem!_pos d j (by simpa using hj)] at this
      have := (ltI_no.1 this).2
      simp only [Array.getElem_toList, decide_eq_true_eq] at h1 h2 ⊢
      exact this (h2.trans h1.symm)
    · refine List.Pairwise.filter _ ?_
      rw [List.pairwise_iff_getElem]
      intro i j hi hj hij
      simp
      omega
  have e1 : (d.toList.map (·.1)).filter (fun c => decide (c.key = k)) = (d.toList.filter (fun x => decide (x.1.key = k))).map (·.1) := by
    rw [List.filter_map]
    rfl
  have e2 : l.filter (fun c => decide (c.key = k)) = (l.zipIdx.filter (fun x => decide (x.1.key = k))).map (·.1) := by
    conv => lhs; rw [← List.zipIdx_map_fst 0 l, List.filter_map]
    rfl
  rw [e1, e2, key]
theorem stable_sorted {l : List Chg} {d : Array El} (hz : d.size = (els l).size) (hs : SortedIn ltI 0 (els l).size d) : (d.toList.map (·.1)).Pairwise (fun x y => ¬ y.key < x.key) := by
  rw [List.pairwise_map, List.pairwise_iff_getElem]
  intro i j hi hj hij
  have := hs i j (Nat.zero_le _) hij (by rw [← hz]; simpa using hj)
  rw [getElem!_pos d i (by simpa using hi), getElem!_pos d j (by simpa using hj)] at this
  simpa using (ltI_no.1 this).1

/-- A change without what means nothing. -/
def strip (c : Chg) : Chg := if c.gone then { c with val := [] } else c
theorem strip_key (c : Chg) : (strip c).key = c.key := by unfold strip; split <;> rfl
theorem strip_gone (c : Chg) : (strip c).gone = c.gone := by unfold strip; split <;> rfl
/-- The last one of each key, where equal keys stand together. -/
def lasts : List Chg → List Chg
  | [] => []
  | [c] => [strip c]
  | c :: d :: r => if d.key = c.key then lasts (d :: r) else strip c :: lasts (d :: r)
/-- The change of a key. -/
def getC (k : List UInt8) (l : List Chg) : Option Chg := l.find? fun c => decide (c.key = k)
/-- Keys rise. -/
def Rises (l : List Chg) : Prop := l.Pairwise fun x y => x.key < y.key
theorem lasts_mem : ∀ {l : List Chg} {x : Chg}, x ∈ lasts l → ∃ y ∈ l, x = strip y
  | [c], x, h => by
    simp only [lasts, List.mem_singleton] at h
    exact ⟨c, by simp, h⟩
  | c :: d :: r, x, h => by
    unfold lasts at h
    split at h
    · obtain ⟨y, hy, e⟩ := lasts_mem h
      exact ⟨y, List.mem_cons_of_mem _ hy, e⟩
    · rcases List.mem_cons.1 h with rfl | h
      · exact ⟨c, by simp, rfl⟩
      · obtain ⟨y, hy, e⟩ := lasts_mem h
        exact ⟨y, List.mem_cons_of_mem _ hy, e⟩
theorem lasts_rises : ∀ {l : List Chg}, l.Pairwise (fun x y => ¬ y.key < x.key) → Rises (lasts l)
  | [], _ => List.Pairwise.nil
  | [c], _ => by simp [lasts, Rises]
  | c :: d :: r, h => by
    have ht := List.pairwise_cons.1 h
    unfold lasts
    split
    · exact lasts_rises ht.2
    · rename_i hne
      refine List.pairwise_cons.2 ⟨fun x hx => ?_, lasts_rises ht.2⟩
      obtain ⟨y, hy, rfl⟩ := lasts_mem hx
      rw [strip_key, strip_key]
      have hcd : c.key < d.key := by
        by_cases h1 : c.key < d.key
        · exact h1
        · exact absurd (lt_tot h1 (ht.1 d (by simp))).symm hne
      rcases List.mem_cons.1 hy with rfl | hy
      · exact hcd
      · by_cases h2 : c.key < y.key
        · exact h2
        · have h3 := (List.pairwise_cons.1 ht.2).1 y hy
          by_cases h4 : y.key < c.key
          · exact absurd h4 (ht.1 y (by simp [hy]))
          · have e := lt_tot h2 h4
            rw [← e] at h3
            exact absurd hcd h3
theorem lasts_get (k : List UInt8) : ∀ {l : List Chg}, l.Pairwise (fun x y => ¬ y.key < x.key) → getC k (lasts l) = ((l.filter fun c => decide (c.key = k)).getLast?).map strip
  | [], _ => rfl
  | [c], _ => by
    unfold lasts getC
    by_cases e : c.key = k
    · simp [strip_key, e]
    · simp [strip_key, e]
  | c :: d :: r, h => by
    have ht := List.pairwise_cons.1 h
    have ih := lasts_get k ht.2
    unfold lasts
    split
    · rename_i e
      rw [ih]
      congr 1
      rw [List.filter_cons (x := c)]
      by_cases hk : c.key = k
      · rw [if_pos (by simpa using hk), List.getLast?_cons]
        have : d.key = k := e.trans hk
        rw [List.filter_cons, if_pos (by simpa using this)]
        simp [List.getLast?_cons]
      · rw [if_neg (by simpa using hk)]
    · rename_i hne
      rw [List.filter_cons (x := c)]
      by_cases hk : c.key = k
      · rw [if_pos (by simpa using hk)]
        have hno : (d :: r).filter (fun c => decide (c.key = k)) = [] := by
          rw [List.filter_eq_nil_iff]
          intro y hy hyk
          have hyk : y.key = k := by simpa using hyk
          have hcd : c.key < d.key := by
            by_cases h1 : c.key < d.key
            · exact h1
            · exact absurd (lt_tot h1 (ht.1 d (by simp))).symm hne
          rcases List.mem_cons.1 hy with rfl | hy
          · exact hne (hyk.trans hk.symm)
          · have h3 := (List.pairwise_cons.1 ht.2).1 y hy
            rw [hyk, ← hk] at h3
            exact h3 hcd
        rw [hno]
        simp [getC, strip_key, hk]
      · rw [if_neg (by simpa using hk), ← ih]
        unfold getC
        rw [List.find?_cons_of_neg (by simpa [strip_key] using hk)]
theorem rises_ext : ∀ {a b : List Chg}, Rises a → Rises b → (∀ k, getC k a = getC k b) → a = b := by
  have hmem : ∀ {l : List Chg} {x : Chg}, Rises l → x ∈ l → getC x.key l = some x := by
    intro l
    induction l with
    | nil => intro x _ h; cases h
    | cons y r ih =>
      intro x hr hx
      have ht := List.pairwise_cons.1 hr
      unfold getC
      rcases List.mem_cons.1 hx with rfl | hx
      · simp
      · rw [List.find?_cons_of_neg]
        · exact ih ht.2 hx
        · have := ht.1 x hx
          simp
          intro e
          rw [e] at this
          exact lt_irr _ this
  intro a b ha hb h
  have sub : ∀ {a b : List Chg}, Rises a → (∀ k, getC k a = getC k b) → ∀ x ∈ a, x ∈ b := by
    intro a b ha h x hx
    have := hmem ha hx
    rw [h] at this
    exact List.mem_of_find?_eq_some this
  have nd : ∀ {l : List Chg}, Rises l → l.Nodup := fun hl => hl.imp fun {x y} hxy e => by rw [e] at hxy; exact lt_irr _ hxy
  refine List.Perm.eq_of_pairwise (le := fun x y => ¬ y.key < x.key) ?_ (ha.imp fun hxy => lt_asy hxy) (hb.imp fun hxy => lt_asy hxy) ((List.perm_ext_iff_of_nodup (nd ha) (nd hb)).2 fun x => ⟨sub ha h x, sub hb (fun k => (h k).symm) x⟩)
  intro x y hx hy h1 h2
  have e := lt_tot h2 h1
  have e1 := hmem ha hx
  have e2 := hmem hb hy
  rw [h, e, e2] at e1
  cases e1
  rfl
end Go.Proofs.YtmpklljiddggpaaGreatDoor
