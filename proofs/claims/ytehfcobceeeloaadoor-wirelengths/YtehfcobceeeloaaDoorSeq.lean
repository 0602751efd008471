/-
  The walk of the statements' helper Number; slices of integers that came in; integers one behind the other as bytes. Conditions: each theorem's own premises.
-/
import Derived.Test.YtehfcobceeeloaaDoorLawPuts
import Derived.Deep.RegionHeld3
namespace Go.Proofs.YtehfcobceeeloaaDoor
open Go.RowKit

theorem tmod_emod (n b : Int) (hb : 0 < b) : n % b = if n.tmod b < 0 then n.tmod b + b else n.tmod b := by
  rw [Int.tmod_eq_emod]
  have h1 := Int.emod_nonneg n (by omega : b ≠ 0)
  have h2 := Int.emod_lt_of_pos n hb
  have e : (b.natAbs : Int) = b := by omega
  split <;> rename_i h <;> split <;> omega

set_option maxHeartbeats 400000 in
theorem number_any (n b : Int) (w : World) (hb : 0 < b) (hb2 : b ≤ 4294967296) :
    Calls Tryd.prog 25 #[.int .i64 n, .int .i64 b] w fun e w' => e = .returned (.int .i64 (n % b)) ∧ w = w' := by
  have e := tmod_emod n b hb
  have h1 := Int.tmod_lt_of_pos n hb
  have h3 := Int.emod_nonneg n (by omega : b ≠ 0)
  have hne : (b == 0) = false := beq_eq_false_iff_ne.2 (by omega)
  by_cases h : n.tmod b < 0
  · rw [if_pos h] at e
    have h2 : -b ≤ n.tmod b := by omega
    have H := Lib.hid e
    clear e h3
    go_enter Tryd.func25, Tryd.ntmps25
    go_wp2
    go_ret
    exact ⟨ret_int H.out.symm, rfl⟩
  · rw [if_neg h] at e
    have H := Lib.hid e
    clear e h3
    go_enter Tryd.func25, Tryd.ntmps25
    go_wp2
    go_ret
    exact ⟨ret_int H.out.symm, rfl⟩

/-- A slice of int64 that came in. -/
structure Ints (w : World) (B : Nat) (A : Option Addr) (l : List Int) : Prop where
  here : l ≠ [] → ∃ ad, A = some ad ∧ ad.block < B ∧ ∀ j z, l[j]? = some z → w.cell? (ad.add j) = some (.int .i64 z)
  wide : ∀ z ∈ l, -9223372036854775808 ≤ z ∧ z ≤ 9223372036854775807
theorem Ints.pick {w : World} {B : Nat} {A : Option Addr} {l : List Int} (h : Ints w B A l) {k : Nat} (hk : k < l.length) : ∃ ad, A = some ad ∧ ad.block < B ∧ w.cell? (ad.add k) = some (.int .i64 l[k]) := by
  obtain ⟨ad, e, hb, hc⟩ := h.here (by intro h; subst h; simp at hk)
  exact ⟨ad, e, hb, hc k _ (List.getElem?_eq_getElem hk)⟩

/-- Integers one behind the other, as bytes. -/
def encL (l : List Int) : List UInt8 := l.flatMap enc
theorem encL_nil : encL [] = [] := rfl
theorem encL_append (a b : List Int) : encL (a ++ b) = encL a ++ encL b := by simp [encL]
theorem encL_snoc (l : List Int) (k : Nat) (hk : k < l.length) : encL (l.take (k + 1)) = encL (l.take k) ++ enc l[k] := by
  rw [List.take_succ_eq_append_getElem hk, encL_append]; simp [encL]
theorem encL_length (l : List Int) : (encL l).length ≤ 10 * l.length := by
  induction l with
  | nil => simp [encL]
  | cons x l ih =>
    have := enc_length x
    simp only [encL, List.flatMap_cons, List.length_append, List.length_cons] at ih ⊢
    omega
theorem encL_drop (l : List Int) (k : Nat) (hk : k < l.length) : (encL l).drop (encL (l.take k)).length = enc l[k] ++ encL (l.drop (k + 1)) := by
  have e : encL l = encL (l.take k) ++ (enc l[k] ++ encL (l.drop (k + 1))) := by
    rw [← List.append_assoc, ← encL_snoc l k hk, ← encL_append, List.take_append_drop]
  rw [e, List.drop_left]
theorem encL_full (l : List Int) (k : Nat) (hk : k ≤ l.length) : (encL l).length - (encL (l.take k)).length = 0 ↔ k = l.length := by
  have e : encL l = encL (l.take k) ++ encL (l.drop k) := by rw [← encL_append, List.take_append_drop]
  rw [e, List.length_append]
  constructor
  · intro h
    rcases Nat.lt_or_ge k l.length with hlt | hge
    · rw [List.drop_eq_getElem_cons hlt] at h
      have := enc_pos l[k]
      simp only [encL, List.flatMap_cons, List.length_append] at h
      omega
    · omega
  · rintro rfl; simp [encL]
theorem encL_le (l : List Int) (k : Nat) : (encL (l.take k)).length ≤ (encL l).length := by
  have e : encL l = encL (l.take k) ++ encL (l.drop k) := by rw [← encL_append, List.take_append_drop]
  rw [e, List.length_append]; omega
end Go.Proofs.YtehfcobceeeloaaDoor
