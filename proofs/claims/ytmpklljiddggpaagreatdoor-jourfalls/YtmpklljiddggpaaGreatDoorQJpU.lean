/-
  How the list of things that a store is told is opened. Conditions: each theorem's own premises.
-/
import Derived.Test.YtmpklljiddggpaaGreatDoorQDkFrame21
import Derived.Test.YtmpklljiddggpaaGreatDoorQJpP
import Derived.Deep.Slices
import Derived.Deep.Fields
import Derived.ChangeSame
namespace Go.Proofs.YtmpklljiddggpaaGreatDoor
open Go.ChangeShapes Go.WideShapes Go.ChangeAt Go.WideMaps Go.WideElems Go.RowKit Go.Deep

theorem list_of {α : Type} {P : Nat → α → Prop} : ∀ n : Nat, (∀ i, i < n → ∃ t, P i t) → ∃ L : List α, L.length = n ∧ ∀ i t, L[i]? = some t → P i t
  | 0, _ => ⟨[], rfl, fun i t h => by simp at h⟩
  | n + 1, h => by
    obtain ⟨L, hl, hL⟩ := list_of n (fun i hi => h i (by omega))
    obtain ⟨t, ht⟩ := h n (by omega)
    refine ⟨L ++ [t], by simp [hl], fun i u hu => ?_⟩
    by_cases e : i < L.length
    · rw [List.getElem?_append_left e] at hu
      exact hL i u hu
    · rw [List.getElem?_append_right (by omega)] at hu
      have : i - L.length = 0 := by
        rcases Nat.eq_zero_or_pos (i - L.length) with h0 | h0
        · exact h0
        · rw [List.getElem?_eq_none (by simp; omega)] at hu; cases hu
      rw [this] at hu
      simp at hu
      subst hu
      have : i = n := by omega
      subst this
      exact ht
theorem slice_form {H : Type} {enc : TypeId × Value → H} {W : World} {t e : TypeId} {fuel : Nat} {v : Value} {x : DataW H × List MemPlace} (ht : Tryz.prog.underlying t = some (.slice e)) (h : DataW.trod enc Tryz.prog W 0 (fun _ => true) true fuel t [v] = some x) :
    ∃ A n c, v = .slice A n c ∧ DataW.Trod enc Tryz.prog W 0 (fun _ => true) true t (.slice A n c) x.1 x.2 := by
  rcases open_slice ht h with ⟨hcs, _⟩ | ⟨a, len, cap, _, _, _, _, hcs, _⟩
  · simp at hcs
    subst hcs
    exact ⟨none, 0, 0, rfl, fuel, h⟩
  · simp at hcs
    subst hcs
    exact ⟨some a, len, cap, rfl, fuel, h⟩
theorem int_form {H : Type} {enc : TypeId × Value → H} {W : World} {fuel : Nat} {v : Value} {x : DataW H × List MemPlace} (h : DataW.trod enc Tryz.prog W 0 (fun _ => true) true fuel 3 [v] = some x) :
    ∃ z, v = .int .i64 z := by
  obtain ⟨z, hz, _, _⟩ := DataW.trod_int Tryz.underlying3 h
  simp at hz
  exact ⟨z, hz⟩
theorem bool_form {H : Type} {enc : TypeId × Value → H} {W : World} {fuel : Nat} {v : Value} {x : DataW H × List MemPlace} (h : DataW.trod enc Tryz.prog W 0 (fun _ => true) true fuel 4 [v] = some x) :
    ∃ z, v = .bool z := by
  obtain ⟨z, hz, _⟩ := DataW.trod_bool Tryz.underlying4 h
  simp at hz
  exact ⟨z, hz⟩
theorem str_form {H : Type} {enc : TypeId × Value → H} {W : World} {fuel : Nat} {v : Value} {x : DataW H × List MemPlace} (h : DataW.trod enc Tryz.prog W 0 (fun _ => true) true fuel 9 [v] = some x) :
    ∃ l : List UInt8, v = .string ⟨l.toArray⟩ := by
  obtain ⟨z, hz, _⟩ := DataW.trod_string Tryz.underlying9 h
  simp at hz
  exact ⟨z.data.toList, by rw [hz]⟩
theorem at_field {H : Type} {enc : TypeId × Value → H} {W : World} {fuel j : Nat} {T : TypeId} {cs : List Value} {y : Option (DataW H × List MemPlace)} (hj : j < cs.length) (h : DataW.trod enc Tryz.prog W 0 (fun _ => true) true fuel T ((cs.drop j).take 1) = y) (hy : y.isSome = true) :
    ∃ x, DataW.trod enc Tryz.prog W 0 (fun _ => true) true fuel T [cs[j]] = some x := by
  have e : (cs.drop j).take 1 = [cs[j]] := by rw [List.drop_eq_getElem_cons hj]; rfl
  rw [e] at h
  obtain ⟨x, hx⟩ := Option.isSome_iff_exists.1 hy
  exact ⟨x, h.trans hx⟩
theorem cellsCh : Tryz.prog.cellsOf 55 = 3 := by kernel_rfl
theorem cellsDj : Tryz.prog.cellsOf 37 = 2 := by kernel_rfl

/-- What one change is, by its three cells. -/
def ChAt (W : World) (ad : Addr) (i : Nat) (t : Chg) : Prop := ∀ j, j < 3 → W.cell? ((ad.add (i * 3)).add j) = (encC t)[j]?
set_option maxRecDepth 100000 in
theorem chs_of_arg {H : Type} {enc : TypeId × Value → H} {W : World} {a : Option Addr} {len cap : Nat} {d : DataW H} {p : List MemPlace}
    (h : DataW.Trod enc Tryz.prog W 0 (fun _ => true) true 35 (.slice a len cap) d p) : ∃ l : List Chg, len = l.length ∧ Chs W W.heap.size a l ∧ (a = none → cap = 0) := by
  obtain ⟨fuel, hf⟩ := h
  rcases open_slice Tryz.underlying35 hf with ⟨hcs, _⟩ | ⟨ad, len', cap', m, n, D, Pl, hcs, _, hl, _, hm, _, hi⟩
  · simp [Value.cells] at hcs
    obtain ⟨rfl, rfl, rfl⟩ := hcs
    exact ⟨[], rfl, Chs.nil, fun _ => rfl⟩
  · simp [Value.cells] at hcs
    obtain ⟨rfl, rfl, rfl⟩ := hcs
    have hmc : m = cap := by simpa using hm
    obtain ⟨L, hL, hat⟩ := list_of (P := ChAt W ad) len (fun i hil => by
      obtain ⟨cs, hc, ht⟩ := hi i (by omega)
      rw [cellsCh] at hc
      obtain ⟨_, hcl, hcell⟩ := World.cells?_some hc
      obtain ⟨xs, n', _, _, _, hxl, hg⟩ := DataW.trod_struct Tryz.underlying55 ht
      have hx3 : xs.length = 3 := hxl
      have hsm : ∀ j, j < 3 → (xs[j]?).isSome = true := fun j hj => by rw [List.getElem?_eq_getElem (by omega)]; rfl
      obtain ⟨y0, h0⟩ := at_field (j := 0) (cs := cs) (by omega) (hg 0 _ rfl) (hsm 0 (by omega))
      obtain ⟨y1, h1⟩ := at_field (j := 1) (cs := cs) (by omega) (hg 1 _ rfl) (hsm 1 (by omega))
      obtain ⟨y2, h2⟩ := at_field (j := 2) (cs := cs) (by omega) (hg 2 _ rfl) (hsm 2 (by omega))
      obtain ⟨z0, e0⟩ := str_form h0
      obtain ⟨z1, e1⟩ := str_form h1
      obtain ⟨z2, e2⟩ := bool_form h2
      refine ⟨⟨z0, z1, z2⟩, fun j hj => ?_⟩
      rw [hcell j hj, List.getElem?_eq_getElem (by omega)]
      match j, hj with
      | 0, _ => rw [e0]; rfl
      | 1, _ => rw [e1]; rfl
      | 2, _ => rw [e2]; rfl)
    refine ⟨L, hL.symm, ⟨fun hn => ⟨ad, rfl, ?_, fun j u hu => ?_⟩⟩, fun h => by cases h⟩
    · obtain ⟨t, ht⟩ : ∃ t, L[0]? = some t := by
        cases L with
        | nil => exact absurd rfl hn
        | cons t r => exact ⟨t, rfl⟩
      have h0 : W.cell? ((ad.add (0 * 3)).add 0) = some (.string ⟨t.key.toArray⟩) := hat 0 t ht 0 (by omega)
      have := World.block_lt_of_cell? W _ h0
      rwa [add_block, add_block] at this
    · rw [cellsL_at] at hu
      obtain ⟨t, ht, hu⟩ := Option.bind_eq_some_iff.1 hu
      have := hat _ t ht (j % 3) (Nat.mod_lt _ (by omega))
      rw [add_add, show j / 3 * 3 + j % 3 = j by omega, hu] at this
      exact this

/-- What one thing is, by its two cells. -/
def DjAt (W : World) (ad : Addr) (i : Nat) (t : DoJ) : Prop :=
  W.cell? (ad.add (i * 2)) = some (.int .i64 t.kind) ∧ W.cell? ((ad.add (i * 2)).add 1) = some (.slice t.A t.l.length t.c) ∧ Chs W W.heap.size t.A t.l ∧ (t.A = none → t.c = 0)
set_option maxRecDepth 100000 in
theorem djs_of_arg {H : Type} {enc : TypeId × Value → H} {W : World} {a : Option Addr} {len cap : Nat} {d : DataW H} {p : List MemPlace}
    (h : DataW.Trod enc Tryz.prog W 0 (fun _ => true) true 22 (.slice a len cap) d p) : ∃ L : List DoJ, len = L.length ∧ Djs W W.heap.size a L := by
  obtain ⟨fuel, hf⟩ := h
  rcases open_slice Tryz.underlying22 hf with ⟨hcs, _⟩ | ⟨ad, len', cap', m, n, D, Pl, hcs, _, hl, _, hm, _, hi⟩
  · simp [Value.cells] at hcs
    obtain ⟨rfl, rfl, rfl⟩ := hcs
    exact ⟨[], rfl, ⟨fun h => absurd rfl h, fun t ht => by cases ht⟩⟩
  · simp [Value.cells] at hcs
    obtain ⟨rfl, rfl, rfl⟩ := hcs
    have hmc : m = cap := by simpa using hm
    obtain ⟨L, hL, hat⟩ := list_of (P := DjAt W ad) len (fun i hil => by
      obtain ⟨cs, hc, ht⟩ := hi i (by omega)
      rw [cellsDj] at hc
      obtain ⟨_, hcl, hcell⟩ := World.cells?_some hc
      obtain ⟨xs, n', _, _, _, hxl, hg⟩ := DataW.trod_struct Tryz.underlying37 ht
      have hx2 : xs.length = 2 := hxl
      have hsm : ∀ j, j < 2 → (xs[j]?).isSome = true := fun j hj => by rw [List.getElem?_eq_getElem (by omega)]; rfl
      obtain ⟨y0, h0⟩ := at_field (j := 0) (cs := cs) (by omega) (hg 0 _ rfl) (hsm 0 (by omega))
      obtain ⟨y1, h1⟩ := at_field (j := 1) (cs := cs) (by omega) (hg 1 _ rfl) (hsm 1 (by omega))
      obtain ⟨z0, e0⟩ := int_form h0
      obtain ⟨A1, n1, c1, e1, t1⟩ := slice_form Tryz.underlying35 h1
      obtain ⟨l1, hl1, hs1, hz1⟩ := chs_of_arg t1
      have g : ∀ j (hj : j < 2), W.cell? ((ad.add (i * 2)).add j) = some (cs[j]'(by omega)) := fun j hj => by
        rw [hcell j hj, List.getElem?_eq_getElem (by omega)]
      refine ⟨⟨z0, A1, c1, l1⟩, ?_, ?_, hs1, hz1⟩
      · have := g 0 (by omega)
        rw [add_zero, e0] at this
        exact this
      · exact (g 1 (by omega)).trans (by rw [e1, hl1]))
    refine ⟨L, hL.symm, ⟨fun hn => ⟨ad, rfl, ?_, fun j t hj => ?_⟩, fun t ht => ?_⟩⟩
    · obtain ⟨t, ht⟩ : ∃ t, L[0]? = some t := by
        cases L with
        | nil => exact absurd rfl hn
        | cons t r => exact ⟨t, rfl⟩
      have := World.block_lt_of_cell? W _ (hat 0 t ht).1
      rwa [add_block] at this
    · have := hat j t hj
      refine ⟨this.1, ?_⟩
      rw [add_one' ad (j * 2) 0]
      have h2 := this.2.1
      rw [add_add] at h2
      exact h2
    · obtain ⟨j, hj⟩ := List.mem_iff_getElem?.1 ht
      have := hat j t hj
      exact ⟨this.2.2.1, this.2.2.2⟩
end Go.Proofs.YtmpklljiddggpaaGreatDoor
