/-
  The disk as plain data: what is kept, what pends; a map of pending sectors as such a list. Conditions: none.
-/
import Derived.Test.YtmpklljiddggpaaGreatDoorQWords
import Derived.Maps.OwnSet
import Derived.Maps.Ext
import Derived.Maps.RangeWalk
import Derived.Lib.SlKeysI
namespace Go.Proofs.YtmpklljiddggpaaGreatDoor
open Go.RowKit Go.Maps

/-- What a sector holds; none: it was never written. -/
abbrev Sec := Option (List UInt8)
/-- The pending sectors, rising. -/
abbrev Pend := List (Int × List UInt8)

/-- What pends of a sector. -/
def getP (i : Int) : Pend → Option (List UInt8)
  | [] => none
  | x :: r => if x.1 = i then some x.2 else getP i r
/-- With a sector, rising. -/
def insP (i : Int) (b : List UInt8) : Pend → Pend
  | [] => [(i, b)]
  | x :: r => if i < x.1 then (i, b) :: x :: r else if i = x.1 then (i, b) :: r else x :: insP i b r
/-- Rising, and its sectors lie below n, each of at most 128 bytes. -/
def OkP (n : Nat) (p : Pend) : Prop := p.Pairwise (fun x y => x.1 < y.1) ∧ ∀ x ∈ p, 0 ≤ x.1 ∧ x.1 < (n : Int) ∧ x.2.length ≤ 128

theorem OkP.nil (n : Nat) : OkP n [] := ⟨List.Pairwise.nil, by simp⟩
theorem OkP.tail {n : Nat} {x : Int × List UInt8} {p : Pend} (h : OkP n (x :: p)) : OkP n p := ⟨(List.pairwise_cons.1 h.1).2, fun y hy => h.2 y (List.mem_cons_of_mem _ hy)⟩
theorem mem_insP {i : Int} {b : List UInt8} {y : Int × List UInt8} : ∀ {p : Pend}, y ∈ insP i b p → y = (i, b) ∨ y ∈ p
  | [], h => by simp [insP] at h; exact .inl h
  | x :: r, h => by
    unfold insP at h
    split at h
    · simpa using h
    · split at h
      · rcases List.mem_cons.1 h with h | h
        · exact .inl h
        · exact .inr (List.mem_cons_of_mem _ h)
      · rcases List.mem_cons.1 h with h | h
        · exact .inr (h ▸ List.mem_cons_self ..)
        · rcases mem_insP h with h | h
          · exact .inl h
          · exact .inr (List.mem_cons_of_mem _ h)
theorem OkP.ins {n : Nat} {i : Int} {b : List UInt8} (h0 : 0 ≤ i) (hn : i < (n : Int)) (hb : b.length ≤ 128) : ∀ {p : Pend}, OkP n p → OkP n (insP i b p)
  | [], _ => ⟨by simp [insP], by simp [insP]; exact ⟨h0, hn, hb⟩⟩
  | x :: r, h => by
    have hr := OkP.ins h0 hn hb h.tail
    have hx := h.2 x (List.mem_cons_self ..)
    have hp := (List.pairwise_cons.1 h.1).1
    refine ⟨?_, fun y hy => ?_⟩
    · unfold insP
      split
      · rename_i hlt
        refine List.pairwise_cons.2 ⟨fun y hy => ?_, h.1⟩
        rcases List.mem_cons.1 hy with rfl | hy
        · exact hlt
        · have := hp y hy
          show i < y.1
          omega
      · split
        · rename_i e
          exact List.pairwise_cons.2 ⟨fun y hy => by have := hp y hy; show i < y.1; omega, h.tail.1⟩
        · rename_i h1 h2
          refine List.pairwise_cons.2 ⟨fun y hy => ?_, hr.1⟩
          rcases mem_insP hy with rfl | hy
          · show x.1 < i
            omega
          · exact hp y hy
    · rcases mem_insP hy with rfl | hy
      · exact ⟨h0, hn, hb⟩
      · exact h.2 y hy
theorem OkP.length {n : Nat} : ∀ {p : Pend}, OkP n p → p.length ≤ n := by
  suffices ∀ (k : Nat) (p : Pend) (lo : Int), p.Pairwise (fun x y => x.1 < y.1) → (∀ x ∈ p, lo ≤ x.1 ∧ x.1 < lo + (k : Int)) → p.length ≤ k from
    fun {p} h => this n p 0 h.1 (fun x hx => by have := h.2 x hx; omega)
  intro k
  induction k with
  | zero =>
    intro p lo _ h
    cases p with
    | nil => simp
    | cons x r => have := h x (List.mem_cons_self ..); omega
  | succ k ih =>
    intro p lo hp h
    cases p with
    | nil => simp
    | cons x r =>
      have hp' := List.pairwise_cons.1 hp
      have hx := h x (List.mem_cons_self ..)
      have := ih r (lo + 1) hp'.2 (fun y hy => by have h1 := hp'.1 y hy; have h2 := h y (List.mem_cons_of_mem _ hy); omega)
      simp only [List.length_cons]
      omega
theorem getP_mem {i : Int} {b : List UInt8} : ∀ {p : Pend}, getP i p = some b → (i, b) ∈ p
  | x :: r, h => by
    unfold getP at h
    split at h
    · rename_i e
      cases h
      subst e
      exact List.mem_cons_self ..
    · exact List.mem_cons_of_mem _ (getP_mem h)
theorem getP_none {i : Int} : ∀ {p : Pend}, (∀ x ∈ p, x.1 ≠ i) → getP i p = none
  | [], _ => rfl
  | x :: r, h => by
    unfold getP
    rw [if_neg (h x (List.mem_cons_self ..))]
    exact getP_none fun y hy => h y (List.mem_cons_of_mem _ hy)
theorem getP_ins {i j : Int} {b : List UInt8} : ∀ {p : Pend}, p.Pairwise (fun x y => x.1 < y.1) → getP j (insP i b p) = if i = j then some b else getP j p
  | [], _ => by simp [insP, getP]
  | x :: r, h => by
    have ht := List.pairwise_cons.1 h
    unfold insP
    split
    · rename_i hlt
      show (if i = j then some b else getP j (x :: r)) = _
      rfl
    · split
      · rename_i e
        show (if i = j then some b else getP j r) = if i = j then some b else (if x.1 = j then some x.2 else getP j r)
        by_cases e2 : i = j
        · simp [e2]
        · rw [if_neg e2, if_neg e2, if_neg (by omega)]
      · rename_i h1 h2
        show (if x.1 = j then some x.2 else getP j (insP i b r)) = if i = j then some b else (if x.1 = j then some x.2 else getP j r)
        rw [getP_ins ht.2]
        by_cases e1 : x.1 = j
        · rw [if_pos e1, if_neg (by omega), if_pos e1]
        · rw [if_neg e1, if_neg e1]

/-- The pending sectors as a map's datum. -/
def toD (p : Pend) : DataW Unit := .map (p.map fun x => (.int .i64 x.1, .lit (.string x.2)))
theorem size_toD (p : Pend) : Maps.size (toD p) = p.length := by simp [toD, Maps.size]
theorem keys_toD (p : Pend) : intKeys (toD p) = p.map (·.1) := by simp [toD, intKeys, intOf, Function.comp_def]
theorem same_int (a b : Int) : (Lit.int .i64 a).sameKey (.int .i64 b) = decide (a = b) := by simp [Lit.sameKey]
theorem atKey_toD (i : Int) (z : DataW Unit) : ∀ p : Pend, (toD p).atKey (.int .i64 i) z = match getP i p with | some b => .lit (.string b) | none => z
  | [] => rfl
  | x :: r => by
    have ih := atKey_toD i z r
    simp only [toD, DataW.atKey, List.map_cons, List.find?_cons, same_int, getP] at ih ⊢
    by_cases e : x.1 = i
    · simp [e]
    · simp only [decide_eq_false e, if_neg e]
      exact ih
theorem has_toD (i : Int) : ∀ p : Pend, Maps.has (toD p) (.int .i64 i) = (getP i p).isSome
  | [] => rfl
  | x :: r => by
    have ih := has_toD i r
    simp only [toD, Maps.has, List.map_cons, List.any_cons, same_int, getP] at ih ⊢
    by_cases e : x.1 = i
    · simp [e]
    · simp only [decide_eq_false e, if_neg e, Bool.false_or]
      exact ih
theorem has_toD_int {kl : Lit} : ∀ {p : Pend}, Maps.has (toD p) kl = true → ∃ i b, kl = .int .i64 i ∧ getP i p = some b
  | x :: r, h => by
    simp only [toD, Maps.has, List.map_cons, List.any_cons, Bool.or_eq_true] at h
    rcases h with h | h
    · have e : Lit.int .i64 x.1 = kl := WideAt.sameKey_eq h
      subst e
      exact ⟨x.1, x.2, rfl, by simp [getP]⟩
    · obtain ⟨i, b, rfl, hb⟩ := has_toD_int (p := r) h
      by_cases e : x.1 = i
      · exact ⟨i, x.2, rfl, by simp [getP, e]⟩
      · exact ⟨i, b, rfl, by simp [getP, e, hb]⟩
theorem filter_toD {i : Int} : ∀ {p : Pend}, (∀ x ∈ p, x.1 ≠ i) → (p.map fun x => ((.int .i64 x.1, .lit (.string x.2)) : Lit × DataW Unit)).filter (ChangeMaps.notKey (.int .i64 i)) = p.map fun x => (.int .i64 x.1, .lit (.string x.2)) := by
  intro p h
  refine List.filter_eq_self.2 fun y hy => ?_
  obtain ⟨x, hx, rfl⟩ := List.mem_map.1 hy
  simp [ChangeMaps.notKey, same_int, h x hx]
theorem insert_first {x : Lit × DataW Unit} : ∀ {l : List (Lit × DataW Unit)}, (∀ y ∈ l, x.1.before y.1 = true) → DataW.insert x l = x :: l
  | [], _ => rfl
  | y :: r, h => by
    unfold DataW.insert
    rw [if_pos (h y (List.mem_cons_self ..))]
theorem put_toD {i : Int} {b : List UInt8} : ∀ {p : Pend}, p.Pairwise (fun x y => x.1 < y.1) → (toD p).put (.int .i64 i) (.lit (.string b)) = toD (insP i b p) := by
  intro p h
  unfold toD
  rw [DataW.put_eq]
  congr 1
  unfold ChangeMaps.putKey
  induction p with
  | nil => rfl
  | cons x r ih =>
    have ht := List.pairwise_cons.1 h
    have ih := ih ht.2
    rw [List.map_cons, List.filter_cons]
    unfold insP
    by_cases e1 : i < x.1
    · rw [if_pos e1, if_pos (by simp [ChangeMaps.notKey, same_int]; omega), filter_toD (fun y hy => by have := ht.1 y hy; omega)]
      unfold DataW.insert
      rw [if_pos (by simp [Lit.before, e1])]
      rfl
    · rw [if_neg e1]
      by_cases e2 : i = x.1
      · rw [if_pos e2, if_neg (by simp [ChangeMaps.notKey, same_int, e2]), filter_toD (fun y hy => by have := ht.1 y hy; omega), insert_first]
        · rfl
        · intro y hy
          obtain ⟨z, hz, rfl⟩ := List.mem_map.1 hy
          have := ht.1 z hz
          simp [Lit.before]
          omega
      · rw [if_neg e2, if_pos (by simp [ChangeMaps.notKey, same_int]; omega)]
        unfold DataW.insert
        rw [if_neg (by simp [Lit.before, e1]), ih]
        rfl
theorem sorted_keys {n : Nat} {p : Pend} (h : OkP n p) {ss : List Int} (hp : ss.Perm (intKeys (toD p))) : ss.mergeSort (fun x y => decide (x ≤ y)) = p.map (·.1) := by
  rw [keys_toD] at hp
  rw [mergeSort_of_perm_i hp]
  refine List.mergeSort_of_pairwise ?_
  refine (List.pairwise_map.2 h.1).imp ?_
  intro a b hab
  simp
  omega

/-- How a content reads. -/
def contR (v : Value) : Option (DataW Unit × List MemPlace) :=
  match v with
  | .agg ⟨[.bool true, .string s]⟩ => if s.size ≤ 128 then some (.lit (.string s.data.toList), []) else none
  | .agg ⟨[.bool false, .string s]⟩ => if s = ⟨#[]⟩ then some (.nil, []) else none
  | _ => none
/-- A content's value. -/
def secV : Sec → Value
  | none => .agg #[.bool false, .string ⟨#[]⟩]
  | some b => .agg #[.bool true, .string ⟨b.toArray⟩]
theorem contR_zero : contR (secV none) = some (.nil, []) := by
  simp [contR, secV]
theorem contR_some {b : List UInt8} (h : b.length ≤ 128) : contR (secV (some b)) = some (.lit (.string b), []) := by
  simp only [contR, secV]
  rw [if_pos (by simpa [ByteArray.size] using h)]
theorem contR_inv {v : Value} {y : DataW Unit × List MemPlace} (h : contR v = some y) : (v = secV none ∧ y = (.nil, [])) ∨ ∃ b : List UInt8, b.length ≤ 128 ∧ v = secV (some b) ∧ y = (.lit (.string b), []) := by
  unfold contR at h
  split at h
  · rename_i s
    split at h
    · rename_i hs
      cases h
      refine .inr ⟨s.data.toList, Nat.le_trans (Nat.le_of_eq (show s.data.toList.length = s.size from Array.length_toList)) hs, ?_, rfl⟩
      simp [secV]
    · cases h
  · split at h
    · rename_i e
      cases h
      subst e
      exact .inl ⟨rfl, rfl⟩
    · cases h
  · cases h
theorem contR_lit {v : Value} {b : List UInt8} {ps : List MemPlace} (h : contR v = some (.lit (.string b), ps)) : v = secV (some b) := by
  rcases contR_inv h with ⟨_, e⟩ | ⟨c, _, rfl, e⟩
  · simp at e
  · simp only [Prod.mk.injEq, DataW.lit.injEq, Lit.string.injEq] at e
    rw [e.1]
theorem contR_nil {v : Value} {ps : List MemPlace} (h : contR v = some (.nil, ps)) : v = secV none := by
  rcases contR_inv h with ⟨rfl, e⟩ | ⟨c, _, rfl, e⟩
  · rfl
  · simp at e
end Go.Proofs.YtmpklljiddggpaaGreatDoor
