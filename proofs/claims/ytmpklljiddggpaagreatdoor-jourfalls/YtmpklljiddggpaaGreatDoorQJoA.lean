/-
  Plain: records under changes: the last change of each key, what is left behind changes, those that make a difference. Conditions: none.
-/
import Derived.Test.YtmpklljiddggpaaGreatDoorQJsE
namespace Go.Proofs.YtmpklljiddggpaaGreatDoor
open Go.Sort

/-- With a change, rising; it stands in the place of one of the same key. -/
def insC (c : Chg) : List Chg → List Chg
  | [] => [c]
  | x :: r => if c.key < x.key then c :: x :: r else if c.key = x.key then c :: r else x :: insC c r
theorem mem_insC {c x : Chg} : ∀ {l : List Chg}, x ∈ insC c l → x = c ∨ x ∈ l
  | [], h => by simp [insC] at h; exact .inl h
  | y :: r, h => by
    unfold insC at h
    split at h
    · simpa using h
    · split at h
      · rcases List.mem_cons.1 h with h | h
        · exact .inl h
        · exact .inr (List.mem_cons_of_mem _ h)
      · rcases List.mem_cons.1 h with h | h
        · exact .inr (h ▸ List.mem_cons_self ..)
        · rcases mem_insC h with h | h
          · exact .inl h
          · exact .inr (List.mem_cons_of_mem _ h)
theorem insC_rises {c : Chg} : ∀ {l : List Chg}, Rises l → Rises (insC c l)
  | [], _ => by simp [insC, Rises]
  | x :: r, h => by
    have ht := List.pairwise_cons.1 h
    unfold insC
    split
    · rename_i hlt
      refine List.pairwise_cons.2 ⟨fun y hy => ?_, h⟩
      rcases List.mem_cons.1 hy with rfl | hy
      · exact hlt
      · exact lt_tr hlt (ht.1 y hy)
    · split
      · rename_i e
        exact List.pairwise_cons.2 ⟨fun y hy => by rw [e]; exact ht.1 y hy, ht.2⟩
      · rename_i h1 h2
        refine List.pairwise_cons.2 ⟨fun y hy => ?_, insC_rises ht.2⟩
        rcases mem_insC hy with rfl | hy
        · by_cases h3 : x.key < y.key
          · exact h3
          · exact absurd (lt_tot h1 h3) h2
        · exact ht.1 y hy
theorem getC_cons (k : List UInt8) (x : Chg) (r : List Chg) : getC k (x :: r) = if x.key = k then some x else getC k r := by
  unfold getC
  by_cases e : x.key = k
  · simp [e]
  · simp [e]
theorem getC_ins (k : List UInt8) (c : Chg) : ∀ {l : List Chg}, Rises l → getC k (insC c l) = if c.key = k then some c else getC k l
  | [], _ => by rw [insC, getC_cons]
  | x :: r, h => by
    have ht := List.pairwise_cons.1 h
    unfold insC
    split
    · rw [getC_cons]
    · split
      · rename_i e
        rw [getC_cons, getC_cons]
        by_cases e2 : c.key = k
        · rw [if_pos e2, if_pos e2]
        · rw [if_neg e2, if_neg e2, if_neg (by rw [← e]; exact e2)]
      · rename_i h1 h2
        rw [getC_cons, getC_cons, getC_ins k c ht.2]
        by_cases e1 : x.key = k
        · rw [if_pos e1, if_pos e1, if_neg (fun e => h2 (e.trans e1.symm))]
        · rw [if_neg e1, if_neg e1]
theorem getC_none {k : List UInt8} {l : List Chg} (h : ∀ x ∈ l, x.key ≠ k) : getC k l = none := by
  unfold getC
  rw [List.find?_eq_none]
  intro x hx
  simpa using h x hx
theorem getC_some {k : List UInt8} {l : List Chg} {x : Chg} (h : getC k l = some x) : x ∈ l ∧ x.key = k :=
  ⟨List.mem_of_find?_eq_some h, by have := List.find?_some h; simpa using this⟩
theorem getC_mem : ∀ {l : List Chg} {x : Chg}, Rises l → x ∈ l → getC x.key l = some x
  | y :: r, x, h, hx => by
    have ht := List.pairwise_cons.1 h
    rw [getC_cons]
    rcases List.mem_cons.1 hx with rfl | hx
    · rw [if_pos rfl]
    · rw [if_neg (fun e => by have := ht.1 x hx; rw [e] at this; exact lt_irr _ this)]
      exact getC_mem ht.2 hx
theorem ofil (p : Chg → Bool) (x : Chg) : (some x).filter p = if p x then some x else none := rfl
theorem getC_filter (k : List UInt8) (p : Chg → Bool) : ∀ {l : List Chg}, Rises l → getC k (l.filter p) = (getC k l).filter p
  | [], _ => rfl
  | x :: r, h => by
    have ht := List.pairwise_cons.1 h
    have ih := getC_filter k p ht.2
    rw [List.filter_cons, getC_cons]
    by_cases hp : p x = true
    · rw [if_pos hp, getC_cons]
      by_cases e : x.key = k
      · rw [if_pos e, if_pos e, ofil, if_pos hp]
      · rw [if_neg e, if_neg e]; exact ih
    · rw [if_neg hp]
      by_cases e : x.key = k
      · rw [if_pos e, ih]
        have : getC k r = none := getC_none fun y hy e2 => by have := ht.1 y hy; rw [e, e2] at this; exact lt_irr _ this
        rw [this, ofil, if_neg hp]
        rfl
      · rw [if_neg e]; exact ih
theorem rises_filter {l : List Chg} (p : Chg → Bool) (h : Rises l) : Rises (l.filter p) := List.Pairwise.filter _ h

/-- The last change of a key. -/
def lastC (k : List UInt8) (l : List Chg) : Option Chg := (l.filter fun c => decide (c.key = k)).getLast?
theorem lastC_nil (k : List UInt8) : lastC k [] = none := rfl
theorem lastC_append (k : List UInt8) (a b : List Chg) : lastC k (a ++ b) = (lastC k b).or (lastC k a) := by
  unfold lastC
  rw [List.filter_append, List.getLast?_append]
theorem lastC_one (k : List UInt8) (c : Chg) : lastC k [c] = if c.key = k then some c else none := by
  unfold lastC
  by_cases e : c.key = k <;> simp [e]
theorem lastC_rises (k : List UInt8) : ∀ {l : List Chg}, Rises l → lastC k l = getC k l
  | [], _ => rfl
  | x :: r, h => by
    have ht := List.pairwise_cons.1 h
    have := lastC_append k [x] r
    rw [List.singleton_append] at this
    rw [this, lastC_one, lastC_rises k ht.2, getC_cons]
    by_cases e : x.key = k
    · rw [if_pos e, if_pos e, getC_none fun y hy e2 => by have := ht.1 y hy; rw [e, e2] at this; exact lt_irr _ this]
      rfl
    · rw [if_neg e, if_neg e]
      cases getC k r <;> rfl
theorem lastC_some {k : List UInt8} {l : List Chg} {x : Chg} (h : lastC k l = some x) : x ∈ l ∧ x.key = k := by
  have := List.mem_of_getLast? h
  simpa using List.mem_filter.1 this

/-- The last change of each key, rising. -/
def setl (l : List Chg) : List Chg := l.foldl (fun a c => insC (strip c) a) []
theorem setl_snoc (l : List Chg) (c : Chg) : setl (l ++ [c]) = insC (strip c) (setl l) := by simp [setl]
theorem setl_both (l : List Chg) : Rises (setl l) ∧ ∀ k, getC k (setl l) = (lastC k l).map strip := by
  suffices ∀ n (l : List Chg), l.length = n → Rises (setl l) ∧ ∀ k, getC k (setl l) = (lastC k l).map strip from this _ l rfl
  intro n
  induction n with
  | zero =>
    intro l hl
    obtain rfl := List.eq_nil_of_length_eq_zero hl
    exact ⟨List.Pairwise.nil, fun k => rfl⟩
  | succ n ih =>
    intro l hl
    obtain ⟨a, c, rfl⟩ : ∃ a c, l = a ++ [c] := ⟨l.dropLast, l.getLast (by rintro rfl; simp at hl), (List.dropLast_concat_getLast _).symm⟩
    obtain ⟨h1, h2⟩ := ih a (by simpa using hl)
    rw [setl_snoc]
    refine ⟨insC_rises h1, fun k => ?_⟩
    rw [getC_ins k _ h1, h2 k, strip_key, lastC_append, lastC_one]
    by_cases e : c.key = k
    · rw [if_pos e, if_pos e]; rfl
    · rw [if_neg e, if_neg e]; rfl
theorem setl_rises (l : List Chg) : Rises (setl l) := (setl_both l).1
theorem setl_get (k : List UInt8) (l : List Chg) : getC k (setl l) = (lastC k l).map strip := (setl_both l).2 k
/-- What the program comes to is just that. -/
theorem setl_lasts {l : List Chg} {d : Array El} (hp : PermIn 0 (els l).size (els l) d) (hs : SortedIn ltI 0 (els l).size d) : lasts (d.toList.map (·.1)) = setl l := by
  have h1 := stable_sorted hp.1 hs
  refine rises_ext (lasts_rises h1) (setl_rises l) fun k => ?_
  rw [lasts_get k h1, setl_get, stable_filter hp hs k]
  rfl

/-- The records that are left behind changes. -/
def aft (l : List Chg) : List Chg := (setl l).filter fun c => !c.gone
/-- Records: rising, none gone. -/
def Recs (l : List Chg) : Prop := Rises l ∧ ∀ x ∈ l, x.gone = false
theorem aft_recs (l : List Chg) : Recs (aft l) := ⟨rises_filter _ (setl_rises l), fun x hx => by simpa using (List.mem_filter.1 hx).2⟩
/-- What a change leaves under its key. -/
def live (o : Option Chg) : Option Chg := o.filter fun c => !c.gone
theorem aft_get (k : List UInt8) (l : List Chg) : getC k (aft l) = live (lastC k l) := by
  unfold aft live
  rw [getC_filter k _ (setl_rises l), setl_get]
  cases lastC k l with
  | none => rfl
  | some c =>
    simp only [Option.map_some, ofil, strip_gone]
    cases hg : c.gone
    · simp [strip, hg]
    · simp
theorem recs_ext {a b : List Chg} (ha : Recs a) (hb : Recs b) (h : ∀ k, getC k a = getC k b) : a = b := rises_ext ha.1 hb.1 h
theorem recs_live {l : List Chg} (h : Recs l) (k : List UInt8) : live (lastC k l) = getC k l := by
  rw [lastC_rises k h.1]
  cases hg : getC k l with
  | none => rfl
  | some c => simp [live, ofil, h.2 c (getC_some hg).1]
theorem aft_self {l : List Chg} (h : Recs l) : aft l = l := recs_ext (aft_recs l) h fun k => by rw [aft_get, recs_live h]
theorem aft_append_get (k : List UInt8) {a b : List Chg} (ha : Recs a) : getC k (aft (a ++ b)) = match lastC k b with | some c => live (some c) | none => getC k a := by
  rw [aft_get, lastC_append]
  cases lastC k b with
  | none => exact recs_live ha k
  | some c => rfl
theorem aft_aft (a b : List Chg) : aft (aft a ++ b) = aft (a ++ b) := recs_ext (aft_recs _) (aft_recs _) fun k => by
  rw [aft_append_get k (aft_recs a), aft_get, aft_get, lastC_append]
  cases lastC k b <;> rfl

/-- Does a change make no difference? -/
def idle (r : List Chg) (c : Chg) : Bool :=
  match getC c.key r with
  | none => c.gone
  | some x => !c.gone && decide (x.val = c.val)
/-- The changes that make a difference. -/
def eff (r l : List Chg) : List Chg := (setl l).filter fun c => !idle r c
theorem eff_rises (r l : List Chg) : Rises (eff r l) := rises_filter _ (setl_rises l)
theorem eff_get (k : List UInt8) (r l : List Chg) : lastC k (eff r l) = ((lastC k l).map strip).filter fun c => !idle r c := by
  rw [lastC_rises k (eff_rises r l)]
  unfold eff
  rw [getC_filter k _ (setl_rises l), setl_get]
theorem chg_ext {a b : Chg} (h1 : a.key = b.key) (h2 : a.val = b.val) (h3 : a.gone = b.gone) : a = b := by
  cases a; cases b; simp_all
theorem aft_eff {r : List Chg} (hr : Recs r) (l : List Chg) : aft (r ++ eff r l) = aft (r ++ l) := recs_ext (aft_recs _) (aft_recs _) fun k => by
  rw [aft_append_get k hr, aft_append_get k hr, eff_get]
  cases hl : lastC k l with
  | none => rfl
  | some c =>
    have hk := (lastC_some hl).2
    simp only [Option.map_some, ofil]
    cases hi : idle r (strip c)
    · cases hg : c.gone
      · simp [strip, hg]
      · simp [live, ofil, hg, strip]
    · simp only [Bool.not_true, Bool.false_eq_true, if_false]
      unfold idle at hi
      rw [strip_key, hk] at hi
      cases hg : getC k r with
      | none =>
        rw [hg] at hi
        have : c.gone = true := by simpa [strip_gone] using hi
        simp [live, ofil, this]
      | some x =>
        rw [hg] at hi
        simp only [Bool.and_eq_true, Bool.not_eq_true', decide_eq_true_eq, strip_gone] at hi
        have hs : strip c = c := by simp [strip, hi.1]
        rw [hs] at hi
        have hx := getC_some hg
        simp only [live, ofil, hi.1, Bool.not_false, if_true]
        exact congrArg some (chg_ext (hx.2.trans hk.symm) hi.2 ((hr.2 x hx.1).trans hi.1.symm))
theorem eff_nil {r : List Chg} (hr : Recs r) {l : List Chg} (h : eff r l = []) : aft (r ++ l) = r := by
  rw [← aft_eff hr l, h, List.append_nil, aft_self hr]
/-- The document's own way: one change behind the other. -/
def putR (l : List Chg) (c : Chg) : List Chg := if c.gone then l.filter (fun x => !decide (x.key = c.key)) else insC c l
theorem putR_both {l : List Chg} (h : Recs l) (c : Chg) : Recs (putR l c) ∧ ∀ k, getC k (putR l c) = if c.key = k then live (some c) else getC k l := by
  unfold putR
  cases hg : c.gone
  · refine ⟨⟨insC_rises h.1, fun x hx => ?_⟩, fun k => ?_⟩
    · rcases mem_insC hx with rfl | hx
      · exact hg
      · exact h.2 x hx
    · simp only [Bool.false_eq_true, if_false]
      rw [getC_ins k c h.1]
      simp [live, ofil, hg]
  · refine ⟨⟨rises_filter _ h.1, fun x hx => h.2 x (List.mem_filter.1 hx).1⟩, fun k => ?_⟩
    simp only [if_true]
    rw [getC_filter k _ h.1]
    by_cases e : c.key = k
    · rw [if_pos e]
      cases hk : getC k l with
      | none => simp [live, ofil, hg]
      | some x => simp [live, ofil, hg, (getC_some hk).2, e]
    · rw [if_neg e]
      cases hk : getC k l with
      | none => rfl
      | some x =>
        have := (getC_some hk).2
        have hne : ¬ x.key = c.key := fun h => e (h.symm.trans this)
        simp [ofil, hne]
theorem put_all {l : List Chg} (h : Recs l) (cs : List Chg) : cs.foldl putR l = aft (l ++ cs) := by
  suffices ∀ n (cs : List Chg), cs.length = n → Recs (cs.foldl putR l) ∧ ∀ k, getC k (cs.foldl putR l) = getC k (aft (l ++ cs)) from recs_ext (this _ cs rfl).1 (aft_recs _) (this _ cs rfl).2
  intro n
  induction n with
  | zero =>
    intro cs hl
    obtain rfl := List.eq_nil_of_length_eq_zero hl
    exact ⟨h, fun k => by rw [List.append_nil, aft_self h]; rfl⟩
  | succ n ih =>
    intro cs hl
    obtain ⟨a, c, rfl⟩ : ∃ a c, cs = a ++ [c] := ⟨cs.dropLast, cs.getLast (by rintro rfl; simp at hl), (List.dropLast_concat_getLast _).symm⟩
    obtain ⟨h1, h2⟩ := ih a (by simpa using hl)
    rw [List.foldl_append]
    obtain ⟨h3, h4⟩ := putR_both h1 c
    refine ⟨h3, fun k => ?_⟩
    show getC k (putR (a.foldl putR l) c) = _
    rw [h4 k, h2 k, aft_get, aft_get, ← List.append_assoc, lastC_append k (l ++ a) [c], lastC_one]
    by_cases e : c.key = k
    · rw [if_pos e, if_pos e]; rfl
    · rw [if_neg e, if_neg e]; rfl
end Go.Proofs.YtmpklljiddggpaaGreatDoor
