/-
  Rows of texts that rise, each text once: sorting and compacting gives the one such row; so does putting them in one by one. Conditions: none.
-/
import Derived.Test.YtpfehddkaapjiaaDoorQTrI
namespace Go.Proofs.YtpfehddkaapjiaaDoor
open Go.RowKit Go.Lib Go.Sort Go.Shelf

theorem tx_trans (a b c : List UInt8) (h : a ≤ b) (k : b ≤ c) : a ≤ c := List.le_trans h k
theorem tx_total (a b : List UInt8) : a ≤ b ∨ b ≤ a := List.le_total a b
theorem tx_anti (a b : List UInt8) (h : a ≤ b) (k : b ≤ a) : a = b := List.le_antisymm h k
theorem tx_lt (a b : List UInt8) (h : a ≤ b) (k : a ≠ b) : a < b := by
  rcases List.le_iff_lt_or_eq.1 h with h | h
  · exact h
  · exact absurd h k
theorem tx_irr (a : List UInt8) : ¬ a < a := List.lt_irrefl a
theorem tx_asym (a b : List UInt8) (h : a < b) : ¬ b < a := List.lt_asymm h
theorem tx_ltt (a b c : List UInt8) (h : a < b) (k : b < c) : a < c := List.lt_trans h k

theorem snoc_cases {α : Type} (l : List α) : l = [] ∨ ∃ r a, l = r ++ [a] := by
  rcases List.eq_nil_or_concat l with h | ⟨r, a, h⟩
  · exact .inl h
  · exact .inr ⟨r, a, by rw [h, List.concat_eq_append]⟩
theorem keeps_front (l : List (List UInt8)) (a : List UInt8) (m : Nat) (h : m ≤ l.length) : Lib.compactUpTo (l ++ [a]).toArray m = Lib.compactUpTo l.toArray m := by
  unfold Lib.compactUpTo
  have h1 : ∀ j ∈ List.range m, (l ++ [a]).toArray[j]! = l.toArray[j]! := fun j hj => by
    have : j < l.length := by have := List.mem_range.1 hj; omega
    simp [List.getElem?_append_left this]
  have h2 : (List.range m).filter (Lib.keeps (l ++ [a]).toArray) = (List.range m).filter (Lib.keeps l.toArray) := List.filter_congr fun j hj => by
    have hj' : j < l.length := by have := List.mem_range.1 hj; omega
    unfold Lib.keeps
    rcases j with _ | j
    · rfl
    · simp [List.getElem?_append_left hj', List.getElem?_append_left (show j < l.length by omega)]
  rw [h2]
  exact List.map_congr_left fun j hj => h1 j ((List.mem_filter.1 hj).1)
theorem compact_snoc (l : List (List UInt8)) (a : List UInt8) : Lib.compact (l ++ [a]) = Lib.compact l ++ (if l.getLast? = some a then [] else [a]) := by
  unfold Lib.compact
  rw [List.length_append, List.length_singleton, Lib.compactUpTo_succ, keeps_front l a l.length (Nat.le_refl _)]
  congr 1
  rcases snoc_cases l with rfl | ⟨r, b, rfl⟩
  · simp [Lib.keeps]
  · have h1 : (r ++ [b] ++ [a]).toArray[(r ++ [b]).length]! = a := by simp
    have h2 : (r ++ [b] ++ [a]).toArray[(r ++ [b]).length - 1]! = b := by simp
    rw [h1, List.getLast?_concat]
    unfold Lib.keeps
    rw [h1, h2]
    by_cases h : b = a
    · subst h
      simp
    · have h' : a ≠ b := fun e => h e.symm
      simp [h, h']
/-- Rising, each once, of these members. -/
structure Ris (o l : List (List UInt8)) : Prop where
  up : o.Pairwise (· < ·)
  mem : ∀ x, x ∈ o ↔ x ∈ l
theorem compact_ris : ∀ n (l : List (List UInt8)), l.length = n → l.Pairwise (· ≤ ·) → Ris (Lib.compact l) l
  | 0, l, h, _ => by
    obtain rfl := List.eq_nil_of_length_eq_zero h
    exact ⟨by simp [Lib.compact, Lib.compactUpTo], fun x => by simp [Lib.compact, Lib.compactUpTo]⟩
  | n + 1, l, h, hp => by
    rcases snoc_cases l with rfl | ⟨r, a, rfl⟩
    · simp at h
    · obtain ⟨hp1, _, hp2⟩ := List.pairwise_append.1 hp
      have hp2 : ∀ x ∈ r, x ≤ a := fun x hx => hp2 x hx a (by simp)
      have ih := compact_ris n r (by simpa using h) hp1
      rw [compact_snoc]
      by_cases e : r.getLast? = some a
      · rw [if_pos e, List.append_nil]
        have ha : a ∈ r := List.mem_of_getLast? e
        refine ⟨ih.up, fun x => ?_⟩
        rw [ih.mem]
        simp only [List.mem_append, List.mem_singleton]
        exact ⟨.inl, fun h => h.elim id fun h => h ▸ ha⟩
      · rw [if_neg e]
        have hna : a ∉ r := fun ha => by
          rcases snoc_cases r with rfl | ⟨q, b, rfl⟩
          · cases ha
          · rw [List.getLast?_concat] at e
            have hb : b ≤ a := hp2 b (by simp)
            rcases List.mem_append.1 ha with h | h
            · have := (List.pairwise_append.1 hp1).2.2 a h b (by simp)
              exact e (by rw [tx_anti b a hb this])
            · exact e (by rw [List.mem_singleton.1 h])
        refine ⟨List.pairwise_append.2 ⟨ih.up, by simp, fun x hx y hy => ?_⟩, fun x => ?_⟩
        · rw [List.mem_singleton.1 hy]
          have hx := (ih.mem x).1 hx
          exact tx_lt x a (hp2 x hx) fun e => hna (e ▸ hx)
        · simp [ih.mem]
theorem usesS_ris (l : List (List UInt8)) : Ris (usesS l) l := by
  unfold usesS
  have hs : (l.mergeSort fun x y => decide (x ≤ y)).Pairwise (· ≤ ·) := by
    have := List.pairwise_mergeSort (le := fun x y : List UInt8 => decide (x ≤ y)) (fun a b c h k => by simpa using tx_trans a b c (by simpa using h) (by simpa using k)) (fun a b => by simpa using tx_total a b) l
    exact this.imp fun h => by simpa using h
  have h := compact_ris _ _ rfl hs
  exact ⟨h.up, fun x => by rw [h.mem, List.mem_mergeSort]⟩
/-- There is one such row. -/
theorem Ris.one : ∀ {o p l : List (List UInt8)}, Ris o l → Ris p l → o = p := by
  intro o
  induction o with
  | nil =>
    intro p l ho hp
    rcases p with _ | ⟨b, p⟩
    · rfl
    · have := (ho.mem b).2 ((hp.mem b).1 (by simp))
      cases this
  | cons a o ih =>
    intro p l ho hp
    rcases p with _ | ⟨b, p⟩
    · have := (hp.mem a).2 ((ho.mem a).1 (by simp))
      cases this
    · obtain ⟨u1, u2⟩ := List.pairwise_cons.1 ho.up
      obtain ⟨v1, v2⟩ := List.pairwise_cons.1 hp.up
      have hab : a = b := by
        have h1 := (hp.mem a).2 ((ho.mem a).1 (by simp))
        have h2 := (ho.mem b).2 ((hp.mem b).1 (by simp))
        rcases List.mem_cons.1 h1 with h1 | h1
        · exact h1
        · rcases List.mem_cons.1 h2 with h2 | h2
          · exact h2.symm
          · exact absurd (v1 a h1) (tx_asym a b (u1 b h2))
      subst hab
      have e : o = p := ih (l := o) ⟨u2, fun _ => Iff.rfl⟩ ⟨v2, fun x => by
        have h := (hp.mem x).trans (ho.mem x).symm
        simp only [List.mem_cons] at h
        constructor
        · intro hx
          rcases h.1 (.inr hx) with h1 | h1
          · subst h1; exact absurd (v1 x hx) (tx_irr x)
          · exact h1
        · intro hx
          rcases h.2 (.inr hx) with h1 | h1
          · subst h1; exact absurd (u1 x hx) (tx_irr x)
          · exact h1⟩
      rw [e]
/-- Putting one in. -/
def insT (x : List UInt8) : List (List UInt8) → List (List UInt8)
  | [] => [x]
  | a :: r => if a < x then a :: insT x r else if a = x then a :: r else x :: a :: r
theorem insT_mem (x y : List UInt8) : ∀ o : List (List UInt8), y ∈ insT x o ↔ y = x ∨ y ∈ o
  | [] => by simp [insT]
  | a :: r => by
    have ih := insT_mem x y r
    unfold insT
    split
    · simp only [List.mem_cons, ih]
      exact ⟨fun h => h.elim (fun h => .inr (.inl h)) (fun h => h.elim .inl fun h => .inr (.inr h)), fun h => h.elim (fun h => .inr (.inl h)) (fun h => h.elim .inl fun h => .inr (.inr h))⟩
    · split
      · rename_i h; subst h; simp
      · simp
theorem insT_up (x : List UInt8) : ∀ o : List (List UInt8), o.Pairwise (· < ·) → (insT x o).Pairwise (· < ·)
  | [], _ => by simp [insT]
  | a :: r, h => by
    obtain ⟨h1, h2⟩ := List.pairwise_cons.1 h
    have ih := insT_up x r h2
    unfold insT
    split
    · rename_i hax
      exact List.pairwise_cons.2 ⟨fun y hy => by
        rcases (insT_mem x y r).1 hy with rfl | hy
        · exact hax
        · exact h1 y hy, ih⟩
    · rename_i hax
      split
      · exact h
      · rename_i hne
        have hxa : x < a := tx_lt x a (by
          rcases tx_total a x with h | h
          · exact absurd (tx_lt a x h hne) hax
          · exact h) (fun e => hne e.symm)
        exact List.pairwise_cons.2 ⟨fun y hy => by
          rcases List.mem_cons.1 hy with rfl | hy
          · exact hxa
          · exact tx_ltt x a y hxa (h1 y hy), h⟩
/-- Putting them in one by one. -/
def risT (l : List (List UInt8)) : List (List UInt8) := l.foldl (fun o x => insT x o) []
theorem risT_snoc (l : List (List UInt8)) (x : List UInt8) : risT (l ++ [x]) = insT x (risT l) := by simp [risT]
theorem risT_ris : ∀ n (l : List (List UInt8)), l.length = n → Ris (risT l) l
  | 0, l, h => by
    obtain rfl := List.eq_nil_of_length_eq_zero h
    exact ⟨by simp [risT], fun x => by simp [risT]⟩
  | n + 1, l, h => by
    rcases snoc_cases l with rfl | ⟨r, a, rfl⟩
    · simp at h
    · have ih := risT_ris n r (by simpa using h)
      rw [risT_snoc]
      exact ⟨insT_up a _ ih.up, fun x => by rw [insT_mem, ih.mem]; simp [or_comm]⟩
theorem usesS_eq (l l' : List (List UInt8)) (h : ∀ x, x ∈ l ↔ x ∈ l') : usesS l = risT l' :=
  (usesS_ris l).one ⟨(risT_ris _ l' rfl).up, fun x => ((risT_ris _ l' rfl).mem x).trans (h x).symm⟩
end Go.Proofs.YtpfehddkaapjiaaDoor
