/-
  A slice of integers that came in, as a list. Conditions: each theorem's own premises.
-/
import Derived.Test.YtpfehddkaapjiaaDoorRows
import Derived.Test.YtpfehddkaapjiaaDoorQWords
import Derived.ProofKit
import Derived.OpenShut
import Derived.ShutString
namespace Go.Proofs.YtpfehddkaapjiaaDoor
open Go.ChangeShapes Go.WideShapes Go.ChangeAt Go.RowKit

/-- The slice at A holds these integers, in a block below B. -/
structure Ints (w : World) (B : Nat) (A : Option Addr) (l : List Int) : Prop where
  here : l ≠ [] → ∃ ad, A = some ad ∧ ad.block < B ∧ ∀ j z, l[j]? = some z → w.cell? (ad.add j) = some (.int .i64 z)
section
variable {w w' : World} {B : Nat} {A : Option Addr} {l : List Int}
theorem Ints.pick (h : Ints w B A l) {k : Nat} (hk : k < l.length) : ∃ ad, A = some ad ∧ ad.block < B ∧ w.cell? (ad.add k) = some (.int .i64 l[k]) := by
  obtain ⟨ad, e, hb, hc⟩ := h.here (by intro h; subst h; simp at hk)
  exact ⟨ad, e, hb, hc k _ (List.getElem?_eq_getElem hk)⟩
theorem Ints.below (h : Ints w B A l) (hb : Below B w w') : Ints w' B A l :=
  ⟨fun hn => by
    obtain ⟨ad, e, h1, hc⟩ := h.here hn
    exact ⟨ad, e, h1, fun j z hz => (hb.cell (by rw [add_block]; exact h1)).trans (hc j z hz)⟩⟩
end

theorem laidOut : laidOutB Tryd.prog = true := by kernel_rfl

theorem ints_of_arg {H : Type} {enc : TypeId × Value → H} {W : World} {a : Option Addr} {len cap : Nat} {d : DataW H} {p : List MemPlace}
    (h : DataW.Trod enc Tryd.prog W 0 (fun _ => true) true 51 (.slice a len cap) d p) : ∃ l : List Int, len = l.length ∧ Ints W W.heap.size a l := by
  obtain ⟨fuel, hf⟩ := h
  rcases open_ints Tryd.underlying51 Tryd.underlying3 (by kernel_rfl) hf with ⟨hcs, _⟩ | ⟨x, l, c, zs, hcs, _, hl, hm, hz, _, hcell, hwz⟩
  · simp [Value.cells] at hcs
    obtain ⟨rfl, rfl, rfl⟩ := hcs
    exact ⟨[], rfl, ⟨fun h => absurd rfl h⟩⟩
  · simp [Value.cells] at hcs
    obtain ⟨rfl, rfl, rfl⟩ := hcs
    have hzl : zs.length = cap := by simpa using hz
    refine ⟨zs.take len, by simp; omega, ⟨fun hne => ⟨x, rfl, ?_, fun j u hu => ?_⟩⟩⟩
    · have h0 : 0 < zs.length := by
        rcases Nat.eq_zero_or_pos zs.length with h | h
        · have : zs = [] := List.eq_nil_of_length_eq_zero h
          subst this
          simp at hne
        · exact h
      have := World.block_lt_of_cell? W _ (hcell 0 h0)
      rwa [add_block] at this
    · rw [List.getElem?_take] at hu
      split at hu
      · obtain ⟨hj, hz2⟩ := List.getElem?_eq_some_iff.1 hu
        rw [hcell j hj, List.getD_eq_getElem?_getD, hu]
        rfl
      · cases hu
end Go.Proofs.YtpfehddkaapjiaaDoor
