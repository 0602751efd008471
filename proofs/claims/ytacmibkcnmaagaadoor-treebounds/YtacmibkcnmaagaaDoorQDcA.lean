/-
  Declarations in memory. Conditions: none.
-/
import Derived.Test.YtacmibkcnmaagaaDoorQTrA
namespace Go.Proofs.YtacmibkcnmaagaaDoor
open Go.RowKit Go.Lib

/-- How clocks lie in a row. -/
def LC : Lie (List UInt8 × Bool) := ⟨44, 2, fun k => [.string ⟨k.1.toArray⟩, .bool k.2], fun _ => rfl, fun _ u hu => by
  simp at hu
  rcases hu with rfl | rfl <;> rfl⟩
/-- A declaration, and where its clocks lie. -/
structure Dc where
  pos : Int
  name : List UInt8
  type : Int
  A : Option Addr
  c : Nat
  cks : List (List UInt8 × Bool)
def Dc.vals (d : Dc) : List Value := [.int .i64 d.pos, .string ⟨d.name.toArray⟩, .int .i64 d.type, .slice d.A d.cks.length d.c]
def Dc.val (d : Dc) : Value := .agg #[.int .i64 d.pos, .string ⟨d.name.toArray⟩, .int .i64 d.type, .slice d.A d.cks.length d.c]
/-- How declarations lie in a row. -/
def LD : Lie Dc := ⟨26, 4, Dc.vals, fun _ => rfl, fun _ u hu => by
  simp [Dc.vals] at hu
  rcases hu with rfl | rfl | rfl | rfl <;> rfl⟩
/-- A slice in memory, in blocks of a kind, whatever the elements. -/
structure Sl {α : Type} (L : Lie α) (W : World) (K : Nat → Prop) (A : Option Addr) (c : Nat) (l : List α) : Prop where
  hd : Hd K A l.length c
  row : RowAt W A (L.cells l)
section
variable {α : Type} {L : Lie α} {W W' : World} {K K' : Nat → Prop} {A : Option Addr} {c : Nat} {l : List α}
theorem Sl.keep (h : Sl L W K A c l) (hK : ∀ b, K b → K' b) (hk : ∀ p : Addr, K p.block → W'.cell? p = W.cell? p) : Sl L W' K' A c l :=
  ⟨h.hd.mono hK, fun b o e j u hu => by
    have hl : l.length ≠ 0 := by
      intro h0
      rw [List.eq_nil_of_length_eq_zero h0] at hu
      simp [Lie.cells] at hu
    obtain ⟨b', o', e', hb⟩ := h.hd.at_ hl
    rw [e] at e'
    cases e'
    exact (hk _ hb).trans (h.row b o e j u hu)⟩
theorem Sl.below {B : Nat} (h : Sl L W (· < B) A c l) (hB : Below B W W') : Sl L W' (· < B) A c l := h.keep (fun _ h => h) fun _ hp => hB.cell hp
theorem Sl.nil (L : Lie α) (W : World) (K : Nat → Prop) : Sl L W K none 0 [] := ⟨⟨Nat.le_refl _, fun _ => rfl, fun h => absurd rfl h, by simp [maxLen]⟩, (fun _ _ h => by cases h)⟩
theorem Sl.at_ {b o : Nat} (h : Sl L W K (some ⟨b, o, none⟩) c l) {k : Nat} (hk : k < l.length) (j : Nat) (u : Value) (hj : j < L.n) (hu : (L.enc l[k])[j]? = some u) : W.cell? ⟨b, o + k * L.n + j, none⟩ = some u := by
  have h1 := h.row b o rfl (k * L.n + j) u (by rw [← hu]; exact L.cells_at l k hk j hj)
  rw [← Nat.add_assoc] at h1
  exact h1
end
/-- Declarations in memory. -/
structure Dl (W : World) (K : Nat → Prop) (A : Option Addr) (c : Nat) (l : List Dc) : Prop where
  sl : Sl LD W K A c l
  all : ∀ d ∈ l, Sl LC W K d.A d.c d.cks
theorem Dl.below {W W' : World} {B : Nat} {A : Option Addr} {c : Nat} {l : List Dc} (h : Dl W (· < B) A c l) (hB : Below B W W') : Dl W' (· < B) A c l := ⟨h.sl.below hB, fun d hd => (h.all d hd).below hB⟩
end Go.Proofs.YtacmibkcnmaagaaDoor
