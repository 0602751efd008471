/-
  Tokens of runes as plain lists: what is skipped, what is read at a place, all tokens. Conditions: none.
-/
import Derived.Test.YtndagbmcdpafjaaDoorQLxA
namespace Go.Proofs.YtndagbmcdpafjaaDoor
open Go.Shelf Go.RowKit Go.Lib

def noNl (r : Nat) : Bool := decide (r ≠ 10)
/-- The text behind blanks and remarks. -/
def skp (l : List Nat) : List Nat :=
  match l with
  | [] => []
  | r :: t => if blaB (r : Int) then skp t else if r = 45 ∧ t.head? = some 45 then skp (t.dropWhile noNl) else r :: t
termination_by l.length
decreasing_by
  · simp
  · have := (List.dropWhile_sublist (l := t) noNl).length_le
    simp only [List.length_cons]
    omega
theorem skp_nil : skp [] = [] := by rw [skp]
theorem skp_bla {r : Nat} (t : List Nat) (h : blaB (r : Int) = true) : skp (r :: t) = skp t := by rw [skp, if_pos h]
theorem skp_rem {r : Nat} {t : List Nat} (h : blaB (r : Int) = false) (h1 : r = 45) (h2 : t.head? = some 45) : skp (r :: t) = skp ((r :: t).dropWhile noNl) := by
  rw [skp, if_neg (by simp [h]), if_pos ⟨h1, h2⟩, List.dropWhile_cons_of_pos (by subst h1; rfl)]
theorem skp_stop {r : Nat} {t : List Nat} (h : blaB (r : Int) = false) (h1 : ¬ (r = 45 ∧ t.head? = some 45)) : skp (r :: t) = r :: t := by rw [skp, if_neg (by simp [h]), if_neg h1]
theorem skp_suffix : ∀ (n : Nat) (l : List Nat), l.length ≤ n → ∃ k, skp l = l.drop k ∧ k ≤ l.length
  | 0, l, h => by obtain rfl := List.eq_nil_of_length_eq_zero (Nat.le_zero.1 h); exact ⟨0, skp_nil, Nat.le_refl _⟩
  | n + 1, [], _ => ⟨0, skp_nil, Nat.le_refl _⟩
  | n + 1, r :: t, h => by
    cases hb : blaB (r : Int)
    · by_cases h1 : r = 45 ∧ t.head? = some 45
      · rw [skp_rem hb h1.1 h1.2, List.dropWhile_cons_of_pos (by rw [h1.1]; rfl)]
        have hs := List.dropWhile_suffix (l := t) noNl
        obtain ⟨p, hp⟩ := hs
        obtain ⟨k, hk, hl⟩ := skp_suffix n (t.dropWhile noNl) (by have := congrArg List.length hp; rw [List.length_append] at this; rw [List.length_cons] at h; omega)
        have hpl := congrArg List.length hp
        rw [List.length_append] at hpl
        refine ⟨p.length + k + 1, ?_, by rw [List.length_cons]; omega⟩
        rw [hk, List.drop_succ_cons]
        conv => rhs; rw [← hp]
        rw [List.drop_append, show p.drop (p.length + k) = [] from List.drop_eq_nil_of_le (by omega), show p.length + k - p.length = k by omega, List.nil_append]
      · exact ⟨0, skp_stop hb h1, Nat.zero_le _⟩
    · obtain ⟨k, hk, hl⟩ := skp_suffix n t (by simpa using h)
      exact ⟨k + 1, by rw [skp_bla t hb, hk]; rfl, by simpa using hl⟩
/-- Where one comes to, skipping. -/
def sk (R : List Nat) (i : Nat) : Nat := R.length - (skp (R.drop i)).length
theorem sk_drop (R : List Nat) (i : Nat) : R.drop (sk R i) = skp (R.drop i) := by
  obtain ⟨k, hk, hl⟩ := skp_suffix _ (R.drop i) (Nat.le_refl _)
  unfold sk
  rw [hk, List.length_drop, List.length_drop]
  rcases Nat.lt_or_ge R.length i with h | h
  · rw [List.drop_eq_nil_of_le (by omega), List.drop_eq_nil_of_le (by simp; omega)]
  · rw [List.drop_drop]
    congr 1
    rw [List.length_drop] at hl
    omega
theorem sk_le (R : List Nat) (i : Nat) : sk R i ≤ R.length := Nat.sub_le _ _
theorem sk_ge (R : List Nat) (i : Nat) (h : i ≤ R.length) : i ≤ sk R i := by
  obtain ⟨k, hk, hl⟩ := skp_suffix _ (R.drop i) (Nat.le_refl _)
  unfold sk
  rw [hk, List.length_drop, List.length_drop]
  omega
theorem sk_of {R : List Nat} {i k : Nat} (hk : k ≤ R.length) (h : R.drop k = skp (R.drop i)) : k = sk R i := by
  unfold sk
  rw [← h, List.length_drop]
  omega
/-- The rune at a place; behind the last one: none. -/
def at0 (R : List Nat) (i : Nat) : Nat := R.getD i 0
theorem at0_lt {R : List Nat} {i : Nat} (h : i < R.length) : at0 R i = R[i] := by simp [at0, List.getD, List.getElem?_eq_getElem h]
theorem at0_ge {R : List Nat} {i : Nat} (h : R.length ≤ i) : at0 R i = 0 := by simp [at0, List.getD, List.getElem?_eq_none h]
theorem drop_at0 {R : List Nat} {i : Nat} (h : i < R.length) : R.drop i = at0 R i :: R.drop (i + 1) := by
  rw [List.drop_eq_getElem_cons h, at0_lt h]
theorem head_at0 {R : List Nat} {i v : Nat} (hv : v ≠ 0) : (R.drop i).head? = some v ↔ at0 R i = v := by
  rw [List.head?_drop]
  unfold at0 List.getD
  cases R[i]? with
  | none => simp; omega
  | some a => simp
/-- The first place from one on whose rune does not fit. -/
def bh (p : Nat → Bool) (R : List Nat) (i : Nat) : Nat := i + ((R.drop i).takeWhile p).length
theorem bh_le (p : Nat → Bool) (R : List Nat) (i : Nat) (h : i ≤ R.length) : bh p R i ≤ R.length := by
  have := (List.takeWhile_prefix p (l := R.drop i)).length_le
  rw [List.length_drop] at this
  unfold bh
  omega
theorem bh_ge (p : Nat → Bool) (R : List Nat) (i : Nat) : i ≤ bh p R i := Nat.le_add_right _ _
theorem bh_step {p : Nat → Bool} {R : List Nat} {i : Nat} (h : i < R.length) (hp : p (at0 R i) = true) : bh p R i = bh p R (i + 1) := by
  unfold bh
  rw [drop_at0 h, List.takeWhile_cons_of_pos hp, List.length_cons]
  omega
theorem bh_stop {p : Nat → Bool} {R : List Nat} {i : Nat} (h : i < R.length) (hp : p (at0 R i) = false) : bh p R i = i := by
  unfold bh
  rw [drop_at0 h, List.takeWhile_cons_of_neg (by simp [hp])]
  rfl
theorem bh_end {p : Nat → Bool} {R : List Nat} {i : Nat} (h : R.length ≤ i) : bh p R i = i := by
  unfold bh
  rw [List.drop_eq_nil_of_le h]
  rfl
theorem bh_drop (p : Nat → Bool) (R : List Nat) (i : Nat) : R.drop (bh p R i) = (R.drop i).dropWhile p := by
  unfold bh
  rw [← List.drop_drop]
  have h1 := List.takeWhile_append_dropWhile (p := p) (l := R.drop i)
  have h2 : ((R.drop i).takeWhile p ++ (R.drop i).dropWhile p).drop ((R.drop i).takeWhile p).length = (R.drop i).dropWhile p := List.drop_left
  rw [h1] at h2
  exact h2
theorem bh_not {p : Nat → Bool} {R : List Nat} {i : Nat} (h : bh p R i < R.length) : p (at0 R (bh p R i)) = false := by
  have e := bh_drop p R i
  rw [drop_at0 h] at e
  have := List.head?_dropWhile_not p (R.drop i)
  rw [← e] at this
  simpa using this
theorem bh_gt {p : Nat → Bool} {R : List Nat} {i : Nat} (h : i < R.length) (hp : p (at0 R i) = true) : i < bh p R i := by
  rw [bh_step h hp]
  exact bh_ge p R (i + 1)
theorem bh_take (p : Nat → Bool) (R : List Nat) (i : Nat) : (R.drop i).take (bh p R i - i) = (R.drop i).takeWhile p := by
  unfold bh
  rw [Nat.add_sub_cancel_left]
  exact List.prefix_iff_eq_take.1 (List.takeWhile_prefix p) |>.symm

/-- May a rune stand within a name? Is it a digit? -/
def inNm (r : Nat) : Bool := letB (r : Int) || digB (r : Int) || decide (r = 95)
def isDig (r : Nat) : Bool := digB (r : Int)
/-- What digits say. -/
def dval (l : List UInt8) : Nat := l.foldl (fun a c => a * 10 + (c.toNat - 48)) 0
/-- A number's value, if it may be one. -/
def numB (l : List UInt8) : Option Nat := if (1 < l.length ∧ l.head? = some 48) ∨ 9223372036854775807 < dval l then none else some (dval l)
/-- How long the sign is. -/
def sgn (a b : Nat) : Nat :=
  if (a = 60 ∧ (b = 62 ∨ b = 61)) ∨ (a = 62 ∧ b = 61) ∨ (a = 45 ∧ b = 62) then 2
  else if a = 40 ∨ a = 41 ∨ a = 44 ∨ a = 58 ∨ a = 59 ∨ a = 61 ∨ a = 60 ∨ a = 62 ∨ a = 43 ∨ a = 45 ∨ a = 42 ∨ a = 47 then 1 else 0
theorem sgn_le (a b : Nat) : sgn a b ≤ 2 := by
  unfold sgn
  split
  · omega
  · split <;> omega

/-- A token. -/
structure Tk where
  kind : Nat
  pos : Nat
  text : List UInt8
  n : Nat
/-- What is read at a place: a token and the place behind it, or a fault and its place. -/
inductive Rd where
  | tok (t : Tk) (e : Nat)
  | bad (c p : Nat)
/-- The bytes of the runes from one place to another. -/
def cutE (R : List Nat) (i e : Nat) : List UInt8 := encs ((R.drop i).take (e - i))
def nameAt (R : List Nat) (p : Nat) : Rd :=
  if 24 < (cutE R p (bh inNm R p)).length then .bad 2 p else .tok ⟨if cutE R p (bh inNm R p) ∈ kws then 2 else 1, p, cutE R p (bh inNm R p), 0⟩ (bh inNm R p)
def numAt (R : List Nat) (p : Nat) : Rd :=
  match numB (cutE R p (bh isDig R p)) with
  | none => .bad 6 p
  | some v => if inNm (at0 R (bh isDig R p)) then .bad 6 p else .tok ⟨3, p, cutE R p (bh isDig R p), v⟩ (bh isDig R p)
def signAt (R : List Nat) (p : Nat) : Rd :=
  if sgn (at0 R p) (at0 R (p + 1)) = 0 then .bad 4 p else .tok ⟨4, p, cutE R p (p + sgn (at0 R p) (at0 R (p + 1))), 0⟩ (p + sgn (at0 R p) (at0 R (p + 1)))
/-- At a place that is not skipped. -/
def rdAt (R : List Nat) (p : Nat) : Rd :=
  if at0 R p = 0 then .tok ⟨0, p, [], 0⟩ p
  else if letB (at0 R p : Int) then nameAt R p
  else if isDig (at0 R p) then numAt R p
  else signAt R p
/-- The first one from a place on. -/
def rd (R : List Nat) (i : Nat) : Rd := rdAt R (sk R i)
/-- Runes of a text that may be: none is 0. -/
def okRs (R : List Nat) : Prop := ∀ r ∈ R, okR r ∧ r ≠ 0 ∧ badD (r, 3) = false
theorem okRs.at {R : List Nat} (h : okRs R) {i : Nat} (hi : i < R.length) : at0 R i ≠ 0 := by
  rw [at0_lt hi]
  exact (h _ (List.getElem_mem hi)).2.1
theorem okRs.none {R : List Nat} (h : okRs R) {i : Nat} (hi : at0 R i = 0) : R.length ≤ i := Nat.le_of_not_lt fun hlt => h.at hlt hi
theorem okRs.sub {R : List Nat} (h : okRs R) (i k : Nat) : ∀ r ∈ (R.drop i).take k, okR r := fun r hr => (h r (List.mem_of_mem_drop (List.mem_of_mem_take hr))).1
theorem sgn_two {R : List Nat} {p : Nat} (hs : sgn (at0 R p) (at0 R (p + 1)) = 2) : p + 1 < R.length := by
  rcases Nat.lt_or_ge (p + 1) R.length with hl | hl
  · exact hl
  · rw [at0_ge hl] at hs
    unfold sgn at hs
    rw [if_neg (by omega)] at hs
    split at hs <;> omega
theorem rd_step {R : List Nat} (hR : okRs R) {i : Nat} (hi : i ≤ R.length) {t : Tk} {e : Nat} (h : rd R i = .tok t e) : (t.kind = 0 ∧ t = ⟨0, R.length, [], 0⟩ ∧ e = R.length) ∨ (t.kind ≠ 0 ∧ i < e ∧ e ≤ R.length) := by
  have h1 := sk_ge R i hi
  have h2 := sk_le R i
  unfold rd rdAt at h
  generalize sk R i = p at *
  split at h
  · rename_i g
    injection h with ht he
    subst ht he
    obtain rfl : p = R.length := by have := hR.none g; omega
    exact .inl ⟨rfl, rfl, rfl⟩
  · rename_i g
    have hp : p < R.length := by
      rcases Nat.lt_or_ge p R.length with hl | hl
      · exact hl
      · exact absurd (at0_ge hl) g
    split at h
    · rename_i g2
      unfold nameAt at h
      split at h
      · cases h
      · cases h
        refine .inr ⟨by dsimp only; split <;> omega, ?_, bh_le _ _ _ (by omega)⟩
        have := bh_gt (p := inNm) hp (by simp [inNm, g2])
        omega
    · split at h
      · rename_i g2
        unfold numAt at h
        split at h
        · cases h
        · split at h
          · cases h
          · cases h
            refine .inr ⟨by simp, ?_, bh_le _ _ _ (by omega)⟩
            have := bh_gt (p := isDig) hp g2
            omega
      · unfold signAt at h
        split at h
        · cases h
        · rename_i g3
          cases h
          have := sgn_le (at0 R p) (at0 R (p + 1))
          refine .inr ⟨by simp, by omega, ?_⟩
          rcases (by omega : sgn (at0 R p) (at0 R (p + 1)) = 1 ∨ sgn (at0 R p) (at0 R (p + 1)) = 2) with e | e
          · omega
          · have := sgn_two e
            omega
/-- All tokens from a place on, and the fault, if there is one. -/
def lx (R : List Nat) (i : Nat) : List Tk × Option (Nat × Nat) :=
  match rd R i with
  | .bad c q => ([], some (c, q))
  | .tok t e => if _h : t.kind = 0 ∨ e ≤ i ∨ R.length < e then ([t], none) else (t :: (lx R e).1, (lx R e).2)
termination_by R.length - i
theorem lx_bad {R : List Nat} {i c q : Nat} (h : rd R i = .bad c q) : lx R i = ([], some (c, q)) := by rw [lx, h]
theorem lx_end {R : List Nat} {i e : Nat} {t : Tk} (h : rd R i = .tok t e) (h0 : t.kind = 0) : lx R i = ([t], none) := by rw [lx, h]; simp [h0]
theorem lx_more {R : List Nat} (hR : okRs R) {i e : Nat} (hi : i ≤ R.length) {t : Tk} (h : rd R i = .tok t e) (h0 : t.kind ≠ 0) : lx R i = (t :: (lx R e).1, (lx R e).2) := by
  rcases rd_step hR hi h with ⟨h1, _⟩ | ⟨_, h2, h3⟩
  · exact absurd h1 h0
  · rw [lx, h]
    simp only [h0, false_or]
    rw [dif_neg (by omega)]
theorem lx_length {R : List Nat} (hR : okRs R) : ∀ (n i : Nat), R.length - i ≤ n → i ≤ R.length → (lx R i).1.length ≤ R.length - i + 1
  | n, i, hn, hi => by
    cases hr : rd R i with
    | bad c q => rw [lx_bad hr]; simp
    | tok t e =>
      by_cases h0 : t.kind = 0
      · rw [lx_end hr h0]; simp
      · rcases rd_step hR hi hr with ⟨h1, _⟩ | ⟨_, h2, h3⟩
        · exact absurd h1 h0
        · cases n with
          | zero => omega
          | succ n =>
            have := lx_length hR n e (by omega) h3
            rw [lx_more hR hi hr h0, List.length_cons]
            omega
/-- The runes of a text that may be. -/
theorem noBad.rns {s : ByteArray} (h : noBad s) : okRs (rns s.data.toList) ∧ encs (rns s.data.toList) = s.data.toList := by
  suffices ∀ (n : Nat) (l : List UInt8), l.length ≤ n → (∀ d ∈ pcs l, badD d = false) → okRs (Proofs.YtndagbmcdpafjaaDoor.rns l) ∧ encs (Proofs.YtndagbmcdpafjaaDoor.rns l) = l from this _ _ (Nat.le_refl _) h
  intro n
  induction n with
  | zero =>
    intro l hl _
    obtain rfl := List.eq_nil_of_length_eq_zero (Nat.le_zero.1 hl)
    unfold Proofs.YtndagbmcdpafjaaDoor.rns
    rw [pcs_nil]
    exact ⟨fun r hr => (by cases hr), rfl⟩
  | succ n ih =>
    intro l hl hb
    by_cases h0 : l = []
    · subst h0
      unfold Proofs.YtndagbmcdpafjaaDoor.rns
      rw [pcs_nil]
      exact ⟨fun r hr => (by cases hr), rfl⟩
    · have h1 := dec_pos l
      have h2 := dec_le l h0
      rw [pcs_cons l h0] at hb
      have hd := hb (dec l) (by simp)
      have hnd : dec l ≠ (65533, 1) := fun e => by rw [e] at hd; simp [badD] at hd
      obtain ⟨k1, k2, k3⟩ := dec_encB l h0 hnd
      obtain ⟨i1, i2⟩ := ih (l.drop (dec l).2) (by simp; omega) (fun d hd => hb d (by simp [hd]))
      have e : Proofs.YtndagbmcdpafjaaDoor.rns l = (dec l).1 :: Proofs.YtndagbmcdpafjaaDoor.rns (l.drop (dec l).2) := by
        unfold Proofs.YtndagbmcdpafjaaDoor.rns
        rw [pcs_cons l h0]
        rfl
      have hc : ctlB ((dec l).1 : Int) = false := by
        unfold badD at hd
        simp at hd
        exact hd.1
      rw [e]
      refine ⟨fun r hr => ?_, ?_⟩
      · rcases List.mem_cons.1 hr with rfl | hr
        · refine ⟨k1, fun e0 => ?_, by unfold badD; simp [hc]⟩
          rw [e0] at hc
          revert hc
          decide
        · exact i1 r hr
      · rw [encs_cons, i2, ← k2, List.take_append_drop]
end Go.Proofs.YtndagbmcdpafjaaDoor
