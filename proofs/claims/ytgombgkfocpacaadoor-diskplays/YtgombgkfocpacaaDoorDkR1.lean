/-
  The document's disk in memory: lists of blocks; the walk of 'with'. Conditions: each theorem's own premises.
-/
import Derived.Test.YtgombgkfocpacaaDoorDkErr
namespace Go.Proofs.YtgombgkfocpacaaDoor
open Go.RowKit Go.Maps

/-- A block that was written, as it lies in a cell pair. -/
structure BV where
  i : Int
  A : Option Addr
  c : Nat
  l : List UInt8
def BV.cells (b : BV) : List Value := [.int .i64 b.i, .slice b.A b.l.length b.c]
def BV.val (b : BV) : Value := .agg #[.int .i64 b.i, .slice b.A b.l.length b.c]
def BV.pair (b : BV) : Int × List UInt8 := (b.i, b.l)
def pairsB (bs : List BV) : Pend := bs.map BV.pair
def cellsB (bs : List BV) : List Value := bs.flatMap BV.cells
theorem cellsB_length (bs : List BV) : (cellsB bs).length = bs.length * 2 := by
  induction bs with
  | nil => rfl
  | cons b r ih => simp [cellsB, BV.cells] at ih ⊢; omega
theorem cellsB_at : ∀ (bs : List BV) (j : Nat) (b : BV), bs[j]? = some b → (cellsB bs)[j * 2]? = some (.int .i64 b.i) ∧ (cellsB bs)[j * 2 + 1]? = some (.slice b.A b.l.length b.c)
  | x :: r, 0, b, h => by simp at h; subst h; exact ⟨rfl, rfl⟩
  | x :: r, j + 1, b, h => by
    have h' := cellsB_at r j b (by simpa using h)
    have e1 : (j + 1) * 2 = j * 2 + 1 + 1 := by omega
    rw [e1]
    exact ⟨by simpa [cellsB, BV.cells] using h'.1, by simpa [cellsB, BV.cells] using h'.2⟩

/-- What lies outside the listed blocks stays. -/
def Kp (X : List Nat) (w w' : World) : Prop := ∀ (p : Addr) (v : Value), p.block ∉ X → w.cell? p = some v → w'.cell? p = some v
section
variable {X : List Nat} {w w' w'' : World}
theorem Kp.trans (h : Kp X w w') (k : Kp X w' w'') : Kp X w w'' := fun p v hp hv => k p v hp (h p v hp hv)
theorem Kp.refl (X : List Nat) (w : World) : Kp X w w := fun _ _ _ h => h
theorem Kp.of_below (h : Below w.heap.size w w') : Kp X w w' := fun _ _ _ hv => (h.cell (World.block_lt_of_cell? w _ hv)).trans hv
theorem Kp.of_fr {S : List Nat} (h : Fr S w w') (hS : ∀ x ∈ S, x ∈ X ∨ ∃ es c, w.heap[x]? = some (.map es c)) : Kp X w w' := fun p v hp hv =>
  (World.cell?_of_block (h.block p.block (World.block_lt_of_cell? w _ hv) (fun hx => by
    rcases hS _ hx with h1 | ⟨es, c, h1⟩
    · exact hp h1
    · simp [World.cell?, h1] at hv))).trans hv
theorem Kp.set (h : Kp X w w') {p : Addr} (hp : p.block ∈ X) (u : Value) : Kp X w (w'.setCell p u) := fun q v hq hv =>
  (World.cell?_of_block (Below.heap_setCell w' p u q.block (fun e => hq (e ▸ hp)))).trans (h q v hq hv)
end

/-- Bytes outside the listed blocks. -/
def StrX (w : World) (X : List Nat) (A : Option Addr) (l : List UInt8) : Prop :=
  l ≠ [] → ∃ ad, A = some ad ∧ ad.block ∉ X ∧ ∀ j u, l[j]? = some u → w.cell? (ad.add j) = some (.int .u8 (u.toNat : Int))
theorem StrX.kp {X : List Nat} {w w' : World} {A : Option Addr} {l : List UInt8} (h : StrX w X A l) (k : Kp X w w') : StrX w' X A l := fun hn => by
  obtain ⟨ad, e, hb, hc⟩ := h hn
  exact ⟨ad, e, hb, fun j u hu => k _ _ (by rw [add_block]; exact hb) (hc j u hu)⟩
theorem StrX.str {X : List Nat} {w : World} {A : Option Addr} {l : List UInt8} (h : StrX w X A l) : Str w w.heap.size A l := ⟨fun hn => by
  obtain ⟨ad, e, hb, hc⟩ := h hn
  obtain ⟨u, r, rfl⟩ : ∃ u r, l = u :: r := by
    cases l with
    | nil => exact absurd rfl hn
    | cons u r => exact ⟨u, r, rfl⟩
  have := World.block_lt_of_cell? w _ (hc 0 u rfl)
  rw [add_block] at this
  exact ⟨ad, e, this, hc⟩⟩
theorem Str.strX {X : List Nat} {w : World} {B : Nat} {A : Option Addr} {l : List UInt8} (h : Str w B A l) (hX : ∀ ad, A = some ad → ad.block < B → ad.block ∉ X) : StrX w X A l := fun hn => by
  obtain ⟨ad, e, hb, hc⟩ := h.here hn
  exact ⟨ad, e, hX ad e hb, hc⟩

/-- A slice of blocks outside the listed blocks. -/
structure Bks (w : World) (X : List Nat) (A : Option Addr) (bs : List BV) : Prop where
  here : bs ≠ [] → ∃ ad, A = some ad ∧ ad.block ∉ X ∧ ∀ j b, bs[j]? = some b → w.cell? (ad.add (j * 2)) = some (.int .i64 b.i) ∧ w.cell? ((ad.add (j * 2)).add 1) = some (.slice b.A b.l.length b.c)
  each : ∀ b ∈ bs, StrX w X b.A b.l
section
variable {X : List Nat} {w w' : World} {A : Option Addr} {bs : List BV}
theorem Bks.nil : Bks w X A [] := ⟨fun h => absurd rfl h, fun _ h => by cases h⟩
theorem Bks.kp (h : Bks w X A bs) (k : Kp X w w') : Bks w' X A bs :=
  ⟨fun hn => by
    obtain ⟨ad, e, hb, hc⟩ := h.here hn
    exact ⟨ad, e, hb, fun j b hj => ⟨k _ _ (by rw [add_block]; exact hb) (hc j b hj).1, k _ _ (by rw [add_block, add_block]; exact hb) (hc j b hj).2⟩⟩,
   fun b hb => (h.each b hb).kp k⟩
theorem Bks.pick (h : Bks w X A bs) {k : Nat} (hk : k < bs.length) : ∃ ad, A = some ad ∧ ad.block ∉ X ∧ w.cell? (ad.add (k * 2)) = some (.int .i64 bs[k].i) ∧ w.cell? ((ad.add (k * 2)).add 1) = some (.slice bs[k].A bs[k].l.length bs[k].c) := by
  obtain ⟨ad, e, hb, hc⟩ := h.here (by intro h; subst h; simp at hk)
  exact ⟨ad, e, hb, hc k _ (List.getElem?_eq_getElem hk)⟩
end
/-- The call's own row of blocks is such a slice. -/
theorem bks_own {w : World} {base : Nat} {X : List Nat} {v : Value} {bs : List BV} (h : w.ownsRow base 76 2 v bs.length (cellsB bs)) (hX : ∀ x ∈ X, x < base) (he : ∀ b ∈ bs, StrX w X b.A b.l) :
    ∃ A c, v = .slice A bs.length c ∧ Bks w X A bs := by
  rcases h.2 with ⟨rfl, hz⟩ | ⟨g, cap, cur, rfl, hbase, hg, r1, r2, r3, r4⟩
  · obtain rfl : bs = [] := List.eq_nil_of_length_eq_zero hz
    exact ⟨none, 0, rfl, Bks.nil⟩
  · refine ⟨some ⟨g, 0, none⟩, cap, rfl, ⟨fun _ => ⟨_, rfl, fun hx => by have := hX g hx; omega, fun j b hj => ?_⟩, he⟩⟩
    have := cellsB_at bs j b hj
    rw [add_add]
    exact ⟨World.ownsRow.cells h (g := g) rfl _ _ this.1, World.ownsRow.cells h (g := g) rfl _ _ this.2⟩

theorem infoB : (Tryd.prog.info? 76).map (fun i => (i.zero, i.size, i.bytes)) = some (some (.agg #[.int .i64 0, .slice none 0 0]), 2, 32) := by kernel_rfl
/-- One block is appended. -/
theorem append_blk (w : World) (base : Nat) (v : Value) (bs : List BV) (b : BV) (h : w.ownsRow base 76 2 v bs.length (cellsB bs)) (hb : base ≤ w.heap.size) (hl : bs.length ≤ 20000) :
    ∃ v' w', (∀ ty, (Builtin.append_ #[45, 45] ty #[v, .slice (some ⟨w.heap.size, 0, none⟩) 1 1]).run Tryd.prog (w.alloc (.cells #[.int .i64 b.i, .slice b.A b.l.length b.c] 76)) = .ok v' w') ∧
      w'.ownsRow base 76 2 v' (bs ++ [b]).length (cellsB (bs ++ [b])) ∧ Below base w w' ∧ ∀ k, k < w.heap.size → some k ≠ v.ownBlock → w'.heap[k]? = w.heap[k]? := by
  obtain ⟨i, hi, hz, hs, hb2⟩ := info_parts infoB
  have ho := h.alloc (.cells #[.int .i64 b.i, .slice b.A b.l.length b.c] 76)
  have hlt := h.lt
  have hcell : ∀ j u, b.cells[j]? = some u → (w.alloc (.cells #[.int .i64 b.i, .slice b.A b.l.length b.c] 76)).cell? ((⟨w.heap.size, 0, none⟩ : Addr).add j) = some u := by
    intro j u hu
    rw [lit_add]
    refine (Blk.cell (heap_alloc_new w _) j).trans ?_
    rw [← hu]
    simp [BV.cells]
  have go := fun ty => run_append_own_at (P := Tryd.prog) (w.alloc (.cells #[.int .i64 b.i, .slice b.A b.l.length b.c] 76)) base 45 ty 76 i _ 2 32 Tryd.underlying45 hi hz hs hb2 rfl (by omega) v bs.length (cellsB bs) ho
    ⟨w.heap.size, 0, none⟩ 1 1 b.cells rfl hcell (by intro u hu; simp [BV.cells] at hu; rcases hu with rfl | rfl <;> rfl) (by simp [maxLen]; omega) (by omega) (by simp; omega)
  obtain ⟨v', w', hrun, h2, hg, _, _⟩ := go 0
  have hB0 : Below base w (w.alloc (.cells #[.int .i64 b.i, .slice b.A b.l.length b.c] 76)) := (Below.refl _ w).alloc hb _
  refine ⟨v', w', fun ty => ?_, by simpa [cellsB] using h2, hB0.grown hg (by simp; omega) (fun j hj => (hlt j hj).1), fun k hk hne => (hg.block k (by simp; omega) hne).trans (Below.heap_alloc w _ k hk)⟩
  have : (Builtin.append_ #[45, 45] ty #[v, .slice (some ⟨w.heap.size, 0, none⟩) 1 1]) = (Builtin.append_ #[45, 45] 0 #[v, .slice (some ⟨w.heap.size, 0, none⟩) 1 1]) := rfl
  rw [this]
  exact hrun
end Go.Proofs.YtgombgkfocpacaaDoor
