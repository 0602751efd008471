/-
  How the list of things that a disk is told is opened. Conditions: each theorem's own premises.
-/
import Derived.Test.YtgombgkfocpacaaDoorDkFrame21
import Derived.Test.YtgombgkfocpacaaDoorLawPlA
import Derived.Deep.Slices
import Derived.Deep.Fields
import Derived.ChangeSame
namespace Go.Proofs.YtgombgkfocpacaaDoor
open Go.ChangeShapes Go.WideShapes Go.ChangeAt Go.WideMaps Go.WideElems Go.RowKit Go.Deep

theorem list_of {α : Type} {P : Nat → α → Prop} : ∀ n : Nat, (∀ i, i < n → ∃ t, P i t) → ∃ L : List α, L.length = n ∧ ∀ i t, L[i]? = some t → P i t
  | 0, _ => ⟨[], rfl, fun i t h => by simp at h⟩
  | n + 1, h => by
    obtain ⟨L, hl, hL⟩ := list_of n (fun i hi => h i (by omega))
    obtain ⟨t, ht⟩ := h n (by omega)
    refine ⟨L ++ [t], by simp [hl], fun i u hu => ?_⟩
    by_cases e : i < L.length
    · rw [List.getElem?_append_left e] at hu
      exact hL i u hu
    · rw [List.getElem?_append_right (by omega)] at hu
      have : i - L.length = 0 := by
        rcases Nat.eq_zero_or_pos (i - L.length) with h0 | h0
        · exact h0
        · rw [List.getElem?_eq_none (by simp; omega)] at hu; cases hu
      rw [this] at hu
      simp at hu
      subst hu
      have : i = n := by omega
      subst this
      exact ht

/-- What one such thing is, by its four cells. -/
def DoAt (W : World) (ad : Addr) (i : Nat) (t : DoV) : Prop :=
  W.cell? (ad.add (i * 4)) = some (.int .i64 t.kind) ∧ W.cell? ((ad.add (i * 4)).add 1) = some (.int .i64 t.n) ∧ W.cell? ((ad.add (i * 4)).add 2) = some (.slice t.A1 t.l1.length t.c1) ∧ W.cell? ((ad.add (i * 4)).add 3) = some (.slice t.A2 t.l2.length t.c2) ∧
    Str W W.heap.size t.A1 t.l1 ∧ Ints W W.heap.size t.A2 t.l2 ∧ -9223372036854775808 ≤ t.n ∧ t.n ≤ 9223372036854775807

theorem cellsD : Tryd.prog.cellsOf 36 = 4 := by kernel_rfl

theorem slice_form {H : Type} {enc : TypeId × Value → H} {W : World} {t e : TypeId} {fuel : Nat} {v : Value} {x : DataW H × List MemPlace} (ht : Tryd.prog.underlying t = some (.slice e)) (h : DataW.trod enc Tryd.prog W 0 (fun _ => true) true fuel t [v] = some x) :
    ∃ A n c, v = .slice A n c ∧ DataW.Trod enc Tryd.prog W 0 (fun _ => true) true t (.slice A n c) x.1 x.2 := by
  rcases open_slice ht h with ⟨hcs, _⟩ | ⟨a, len, cap, _, _, _, _, hcs, _⟩
  · simp at hcs
    subst hcs
    exact ⟨none, 0, 0, rfl, fuel, h⟩
  · simp at hcs
    subst hcs
    exact ⟨some a, len, cap, rfl, fuel, h⟩
theorem int_form {H : Type} {enc : TypeId × Value → H} {W : World} {fuel : Nat} {v : Value} {x : DataW H × List MemPlace} (h : DataW.trod enc Tryd.prog W 0 (fun _ => true) true fuel 3 [v] = some x) :
    ∃ z, v = .int .i64 z ∧ -9223372036854775808 ≤ z ∧ z ≤ 9223372036854775807 := by
  obtain ⟨z, hz, _, hw⟩ := DataW.trod_int Tryd.underlying3 h
  simp at hz
  exact ⟨z, hz, wf_i64 hw⟩
theorem at_field {H : Type} {enc : TypeId × Value → H} {W : World} {fuel j : Nat} {T : TypeId} {cs : List Value} {y : Option (DataW H × List MemPlace)} (hj : j < cs.length) (h : DataW.trod enc Tryd.prog W 0 (fun _ => true) true fuel T ((cs.drop j).take 1) = y) (hy : y.isSome = true) :
    ∃ x, DataW.trod enc Tryd.prog W 0 (fun _ => true) true fuel T [cs[j]] = some x := by
  have e : (cs.drop j).take 1 = [cs[j]] := by rw [List.drop_eq_getElem_cons hj]; rfl
  rw [e] at h
  obtain ⟨x, hx⟩ := Option.isSome_iff_exists.1 hy
  exact ⟨x, h.trans hx⟩

set_option maxRecDepth 100000 in
theorem dos_of_arg {H : Type} {enc : TypeId × Value → H} {W : World} {a : Option Addr} {len cap : Nat} {d : DataW H} {p : List MemPlace}
    (h : DataW.Trod enc Tryd.prog W 0 (fun _ => true) true 22 (.slice a len cap) d p) : ∃ L : List DoV, len = L.length ∧ Dos W a L := by
  obtain ⟨fuel, hf⟩ := h
  rcases open_slice Tryd.underlying22 hf with ⟨hcs, _⟩ | ⟨ad, len', cap', m, n, D, Pl, hcs, _, hl, _, hm, _, hi⟩
  · simp [Value.cells] at hcs
    obtain ⟨rfl, rfl, rfl⟩ := hcs
    exact ⟨[], rfl, ⟨fun h => absurd rfl h, fun t ht => by cases ht⟩⟩
  · simp [Value.cells] at hcs
    obtain ⟨rfl, rfl, rfl⟩ := hcs
    have hmc : m = cap := by simpa using hm
    obtain ⟨L, hL, hat⟩ := list_of (P := DoAt W ad) len (fun i hil => by
      obtain ⟨cs, hc, ht⟩ := hi i (by omega)
      rw [cellsD] at hc
      obtain ⟨_, hcl, hcell⟩ := World.cells?_some hc
      obtain ⟨xs, n', _, _, _, hxl, hg⟩ := DataW.trod_struct Tryd.underlying36 ht
      have hx4 : xs.length = 4 := hxl
      have hsm : ∀ j, j < 4 → (xs[j]?).isSome = true := fun j hj => by rw [List.getElem?_eq_getElem (by omega)]; rfl
      obtain ⟨y0, h0⟩ := at_field (j := 0) (cs := cs) (by omega) (hg 0 _ rfl) (hsm 0 (by omega))
      obtain ⟨y1, h1⟩ := at_field (j := 1) (cs := cs) (by omega) (hg 1 _ rfl) (hsm 1 (by omega))
      obtain ⟨y2, h2⟩ := at_field (j := 2) (cs := cs) (by omega) (hg 2 _ rfl) (hsm 2 (by omega))
      obtain ⟨y3, h3⟩ := at_field (j := 3) (cs := cs) (by omega) (hg 3 _ rfl) (hsm 3 (by omega))
      obtain ⟨z0, e0, _⟩ := int_form h0
      obtain ⟨z1, e1, b1⟩ := int_form h1
      obtain ⟨A2, n2, c2, e2, t2⟩ := slice_form Tryd.underlying33 h2
      obtain ⟨A3, n3, c3, e3, t3⟩ := slice_form Tryd.underlying34 h3
      obtain ⟨l2, hl2, hs2, _⟩ := str_of_arg t2
      obtain ⟨l3, hl3, hs3, _⟩ := ints_of_arg t3
      have g : ∀ j (hj : j < 4), W.cell? ((ad.add (i * 4)).add j) = some (cs[j]'(by omega)) := fun j hj => by
        rw [hcell j hj, List.getElem?_eq_getElem (by omega)]
      refine ⟨⟨z0, z1, A2, c2, l2, A3, c3, l3⟩, ?_, ?_, ?_, ?_, hs2, hs3, b1⟩
      · have := g 0 (by omega)
        rw [add_zero, e0] at this
        exact this
      · exact (g 1 (by omega)).trans (by rw [e1])
      · exact (g 2 (by omega)).trans (by rw [e2, hl2])
      · exact (g 3 (by omega)).trans (by rw [e3, hl3]))
    refine ⟨L, hL.symm, ⟨fun hn => ⟨ad, rfl, ?_, fun j t hj => ?_⟩, fun t ht => ?_⟩⟩
    · obtain ⟨t, ht⟩ : ∃ t, L[0]? = some t := by
        cases L with
        | nil => exact absurd rfl hn
        | cons t r => exact ⟨t, rfl⟩
      have := World.block_lt_of_cell? W _ (hat 0 t ht).1
      rwa [add_block] at this
    · have := hat j t hj
      exact ⟨this.1, this.2.1, this.2.2.1, this.2.2.2.1⟩
    · obtain ⟨j, hj⟩ := List.mem_iff_getElem?.1 ht
      have := hat j t hj
      exact ⟨this.2.2.2.2.1, this.2.2.2.2.2.1, this.2.2.2.2.2.2⟩
end Go.Proofs.YtgombgkfocpacaaDoor
