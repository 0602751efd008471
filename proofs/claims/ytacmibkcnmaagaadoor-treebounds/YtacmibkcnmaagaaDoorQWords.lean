/-
  Words for memory: a slice of bytes that reads as a list, a row of bytes that the call itself owns. Conditions: none.
-/
import Derived.Test.YtacmibkcnmaagaaDoorChecked
import Derived.WalkKit
import Derived.WalkSpells
import Derived.WalkLawsBesides
import Derived.Laws.OwnMore
import Derived.Laws.CopyOwn
import Derived.Deep.Draws
import Derived.Lib.Hide
namespace Go.Proofs.YtacmibkcnmaagaaDoor
open Go.RowKit

/-- A byte as a value. -/
def byt (u : UInt8) : Value := .int .u8 (u.toNat : Int)

theorem add_block (a : Addr) (n : Nat) : (a.add n).block = a.block := by unfold Addr.add; split <;> rfl
theorem add_zero (a : Addr) : a.add 0 = a := by simp [Addr.add]
theorem add_add (a : Addr) (i j : Nat) : (a.add i).add j = a.add (i + j) := by
  unfold Addr.add
  by_cases hi : i = 0 <;> by_cases hj : j = 0 <;> simp [hi, hj, Nat.add_assoc]
theorem lit_add (g i : Nat) : (⟨g, 0, none⟩ : Addr).add i = ⟨g, i, none⟩ := by unfold Addr.add; split <;> simp_all

/-- The slice at A holds these bytes, in a block below B. -/
structure Str (w : World) (B : Nat) (A : Option Addr) (l : List UInt8) : Prop where
  here : l ≠ [] → ∃ ad, A = some ad ∧ ad.block < B ∧ ∀ j u, l[j]? = some u → w.cell? (ad.add j) = some (.int .u8 (u.toNat : Int))

section
variable {w w' : World} {B B' : Nat} {A : Option Addr} {l : List UInt8}
theorem Str.nil : Str w B A [] := ⟨fun h => absurd rfl h⟩
theorem Str.pick (h : Str w B A l) {k : Nat} (hk : k < l.length) : ∃ ad, A = some ad ∧ ad.block < B ∧ w.cell? (ad.add k) = some (.int .u8 (l[k].toNat : Int)) := by
  obtain ⟨ad, e, hb, hc⟩ := h.here (by intro h; subst h; simp at hk)
  exact ⟨ad, e, hb, hc k _ (List.getElem?_eq_getElem hk)⟩
theorem Str.keep (h : Str w B A l) (hk : ∀ p : Addr, p.block < B → w'.cell? p = w.cell? p) : Str w' B A l :=
  ⟨fun hn => by
    obtain ⟨ad, e, hb, hc⟩ := h.here hn
    exact ⟨ad, e, hb, fun j u hu => (hk _ (by rw [add_block]; exact hb)).trans (hc j u hu)⟩⟩
theorem Str.more (h : Str w B A l) (hB : B ≤ B') : Str w B' A l :=
  ⟨fun hn => by
    obtain ⟨ad, e, hb, hc⟩ := h.here hn
    exact ⟨ad, e, by omega, hc⟩⟩
theorem Str.below (h : Str w B A l) (hb : Below B w w') : Str w' B A l := h.keep fun _ hp => hb.cell hp
theorem Str.cut (h : Str w B A l) {k c : Nat} (hk : k < c) : Str w B (if c = k then A else A.map (·.add k)) (l.drop k) :=
  ⟨fun hn => by
    obtain ⟨ad, rfl, hb, hc⟩ := h.here (by intro h; subst h; simp at hn)
    rw [if_neg (by omega)]
    refine ⟨ad.add k, rfl, by rw [add_block]; exact hb, fun j u hu => ?_⟩
    rw [add_add]
    exact hc _ u (by rw [← hu, List.getElem?_drop])⟩
theorem Str.take (h : Str w B A l) (k : Nat) : Str w B A (l.take k) :=
  ⟨fun hn => by
    obtain ⟨ad, rfl, hb, hc⟩ := h.here (by intro h; subst h; simp at hn)
    refine ⟨ad, rfl, hb, fun j u hu => hc j u ?_⟩
    rw [List.getElem?_take] at hu
    split at hu
    · exact hu
    · cases hu⟩
end

/-- The call's own row of bytes. -/
def Own (w : World) (base : Nat) (A : Option Addr) (c : Nat) (l : List UInt8) : Prop :=
  w.ownsRow base 5 1 (.slice A l.length c) l.length (l.map byt)

section
variable {w w' : World} {base : Nat} {A : Option Addr} {c : Nat} {l : List UInt8}
theorem Own.form (h : Own w base A c l) : (A = none ∧ c = 0 ∧ l = []) ∨ ∃ g, A = some ⟨g, 0, none⟩ ∧ base ≤ g ∧ g < w.heap.size ∧ l.length ≤ c ∧ c ≤ maxLen := by
  rcases h.2 with ⟨hv, hn⟩ | ⟨g, cap, cur, hv, hb, hg, hnc, hcm, _⟩
  · simp only [Value.slice.injEq] at hv
    exact .inl ⟨hv.1, hv.2.2, List.eq_nil_of_length_eq_zero hn⟩
  · simp only [Value.slice.injEq] at hv
    obtain ⟨rfl, _, rfl⟩ := hv
    exact .inr ⟨g, rfl, hb, (Array.getElem?_eq_some_iff.1 hg).1, hnc, hcm⟩
theorem Own.str (h : Own w base A c l) : Str w w.heap.size A l :=
  ⟨fun hn => by
    rcases h.form with ⟨_, _, rfl⟩ | ⟨g, rfl, _, hg, _⟩
    · exact absurd rfl hn
    · refine ⟨_, rfl, hg, fun j u hu => ?_⟩
      exact World.ownsRow.cells h (g := g) rfl j (byt u) (by rw [List.getElem?_map, hu]; rfl)⟩
theorem Own.cap (h : Own w base A c l) : l.length ≤ c ∧ c ≤ maxLen := by
  rcases h.form with ⟨_, rfl, rfl⟩ | ⟨g, _, _, _, h1, h2⟩
  · simp
  · exact ⟨h1, h2⟩
theorem Own.block (h : Own w base A c l) : ∀ k, (Value.slice A l.length c).ownBlock = some k → base ≤ k ∧ k < w.heap.size := World.ownsRow.lt h
end

theorem byt_one (l : List UInt8) : ∀ u ∈ l.map byt, u.oneCell' = true := by
  intro u hu
  obtain ⟨x, _, rfl⟩ := List.mem_map.1 hu
  rfl

/-- What a call that answers new bytes leaves. -/
def RetBytes (w : World) (base : Nat) (l : List UInt8) (e : Ending) (w' : World) : Prop :=
  ∃ A n c, e = .returned (.slice A n c) ∧ Hid (n = l.length) ∧ Own w' base A c l ∧ Below base w w'

/-- A row behind an append, as bytes. -/
theorem own_of_row {w : World} {base : Nat} {v : Value} {L news : List UInt8} {n : Nat} (hn : n = L.length + news.length) (h : w.ownsRow base 5 1 v n (L.map byt ++ news.map byt)) :
    ∃ A c, v = .slice A (L ++ news).length c ∧ Own w base A c (L ++ news) := by
  subst hn
  have e : L.length + news.length = (L ++ news).length := by simp
  rw [e, ← List.map_append] at h
  rcases h.2 with ⟨rfl, h0⟩ | ⟨g, cap, cur, rfl, _⟩
  · refine ⟨none, 0, by rw [h0], ?_⟩
    unfold Own
    rw [h0] at h ⊢
    exact h
  · exact ⟨_, _, rfl, h⟩
theorem ret_int {k : IntKind} {a b : Int} (h : a = b) : Ending.returned (.int k a) = .returned (.int k b) := by rw [h]
/-- It is true, and nothing old is turned. -/
def RetYes (w : World) (e : Ending) (w' : World) : Prop := e = .returned (.bool true) ∧ Below w.heap.size w w'
theorem Tryd.info8 : (Tryd.prog.info? 5).map (fun i => (i.zero, i.size, i.bytes)) = some (some (.int .u8 0), 1, 1) := by kernel_rfl
end Go.Proofs.YtacmibkcnmaagaaDoor
