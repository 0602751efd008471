/-
  Words for memory: a slice that reads as a list, a row that the call itself owns, whatever the elements. Conditions: none.
-/
import Derived.Test.YtacmibkcnmaagaaDoorQBlk
import Derived.Deep.AppendLies
namespace Go.Proofs.YtacmibkcnmaagaaDoor
open Go.RowKit Go.Lib

/-- How elements lie: their type, their cells. -/
structure Lie (α : Type) where
  ty : TypeId
  n : Nat
  enc : α → List Value
  len : ∀ a, (enc a).length = n
  one : ∀ a, ∀ u ∈ enc a, u.oneCell' = true
def Lie.cells {α : Type} (L : Lie α) (l : List α) : List Value := l.flatMap L.enc
section
variable {α : Type} {L : Lie α} {w w' : World} {B B' base : Nat} {A : Option Addr} {l : List α} {v : Value}
theorem Lie.cells_length (L : Lie α) (l : List α) : (L.cells l).length = l.length * L.n := by
  induction l with
  | nil => simp [Lie.cells]
  | cons c r ih =>
    rw [Lie.cells, List.flatMap_cons, List.length_append, L.len, List.length_cons, Nat.succ_mul]
    rw [Lie.cells] at ih
    omega
theorem Lie.cells_append (L : Lie α) (a b : List α) : L.cells (a ++ b) = L.cells a ++ L.cells b := List.flatMap_append
theorem Lie.cells_one (L : Lie α) (l : List α) : ∀ u ∈ L.cells l, u.oneCell' = true := fun u hu => by
  obtain ⟨a, _, h⟩ := List.mem_flatMap.1 hu
  exact L.one a u h
theorem Lie.cells_at (L : Lie α) : ∀ (l : List α) (i : Nat) (hi : i < l.length) (j : Nat) (_ : j < L.n), (L.cells l)[i * L.n + j]? = (L.enc l[i])[j]?
  | c :: r, 0, _, j, hj => by
    show (L.enc c ++ L.cells r)[0 * L.n + j]? = (L.enc c)[j]?
    rw [List.getElem?_append_left (by rw [L.len]; omega), show 0 * L.n + j = j by omega]
  | c :: r, i + 1, hi, j, hj => by
    have := Lie.cells_at L r i (by simpa using hi) j hj
    show (L.enc c ++ L.cells r)[(i + 1) * L.n + j]? = (L.enc (r[i]'(by simpa using hi)))[j]?
    rw [List.getElem?_append_right (by rw [L.len, Nat.succ_mul]; omega), L.len, Nat.succ_mul, show i * L.n + L.n + j - L.n = i * L.n + j by omega]
    exact this
/-- The slice at A holds these, in a block below B. -/
structure Rw (L : Lie α) (w : World) (B : Nat) (A : Option Addr) (l : List α) : Prop where
  here : l ≠ [] → ∃ ad, A = some ad ∧ ad.block < B ∧ ∀ j u, (L.cells l)[j]? = some u → w.cell? (ad.add j) = some u
theorem Rw.nil : Rw L w B A [] := ⟨fun h => absurd rfl h⟩
theorem Rw.pick (h : Rw L w B A l) {k : Nat} (hk : k < l.length) : ∃ ad, A = some ad ∧ ad.block < B ∧ ∀ j u, (L.enc l[k])[j]? = some u → w.cell? (ad.add (k * L.n + j)) = some u := by
  obtain ⟨ad, e, hb, hc⟩ := h.here (by rintro rfl; simp at hk)
  refine ⟨ad, e, hb, fun j u hu => hc _ _ ?_⟩
  have hj : j < L.n := by rw [← L.len l[k]]; exact (List.getElem?_eq_some_iff.1 hu).1
  rw [L.cells_at l k hk j hj]
  exact hu
theorem Rw.keep (h : Rw L w B A l) (hk : ∀ p : Addr, p.block < B → w'.cell? p = w.cell? p) : Rw L w' B A l :=
  ⟨fun hn => by
    obtain ⟨ad, e, hb, hc⟩ := h.here hn
    exact ⟨ad, e, hb, fun j u hu => (hk _ (by rw [add_block]; exact hb)).trans (hc j u hu)⟩⟩
theorem Rw.more (h : Rw L w B A l) (hB : B ≤ B') : Rw L w B' A l :=
  ⟨fun hn => by
    obtain ⟨ad, e, hb, hc⟩ := h.here hn
    exact ⟨ad, e, by omega, hc⟩⟩
theorem Rw.below (h : Rw L w B A l) (hb : Below B w w') : Rw L w' B A l := h.keep fun _ hp => hb.cell hp
theorem Rw.take (h : Rw L w B A l) (k : Nat) : Rw L w B A (l.take k) :=
  ⟨fun hn => by
    obtain ⟨ad, e, hb, hc⟩ := h.here (by rintro rfl; simp at hn)
    refine ⟨ad, e, hb, fun j u hu => hc j u ?_⟩
    have : L.cells l = L.cells (l.take k) ++ L.cells (l.drop k) := by rw [← L.cells_append, List.take_append_drop]
    rw [this, List.getElem?_append_left (List.getElem?_eq_some_iff.1 hu).1]
    exact hu⟩
/-- The call's own row. -/
def Ow (L : Lie α) (w : World) (base : Nat) (v : Value) (l : List α) : Prop := w.ownsRow base L.ty L.n v l.length (L.cells l)
theorem Ow.form (h : Ow L w base v l) : (v = .slice none 0 0 ∧ l = []) ∨ ∃ g cap cs, v = .slice (some ⟨g, 0, none⟩) l.length cap ∧ base ≤ g ∧ Blk w g L.ty cs ∧ l.length ≤ cap ∧ cap ≤ maxLen ∧ cs.size = cap * L.n ∧ cs.toList.take (l.length * L.n) = L.cells l := by
  rcases h.2 with ⟨hv, hn⟩ | ⟨g, cap, cur, hv, hb, hg, h1, h2, h3, h4⟩
  · exact .inl ⟨hv, List.eq_nil_of_length_eq_zero hn⟩
  · exact .inr ⟨g, cap, cur, hv, hb, hg, h1, h2, h3, h4⟩
theorem Ow.nil (L : Lie α) (w : World) (base : Nat) : Ow L w base (.slice none 0 0) [] := ⟨by simp [Lie.cells], .inl ⟨rfl, rfl⟩⟩
theorem Ow.of {g cap : Nat} {cs : Array Value} (hb : base ≤ g) (hg : Blk w g L.ty cs) (h1 : l.length ≤ cap) (h2 : cap ≤ maxLen) (h3 : cs.size = cap * L.n) (h4 : cs.toList.take (l.length * L.n) = L.cells l) : Ow L w base (.slice (some ⟨g, 0, none⟩) l.length cap) l :=
  ⟨L.cells_length l, .inr ⟨g, cap, cs, rfl, hb, hg, h1, h2, h3, h4⟩⟩
theorem Ow.rw (h : Ow L w base v l) : ∃ A c, v = .slice A l.length c ∧ Rw L w w.heap.size A l ∧ (A = none → c = 0) ∧ l.length ≤ c ∧ c ≤ maxLen ∧ (∀ ad, A = some ad → ad = ⟨ad.block, 0, none⟩ ∧ base ≤ ad.block ∧ ad.block < w.heap.size) := by
  rcases h.form with ⟨rfl, rfl⟩ | ⟨g, cap, cs, rfl, hb, hg, h1, h2, h3, h4⟩
  · exact ⟨none, 0, rfl, Rw.nil, fun _ => rfl, Nat.le_refl _, by simp [maxLen], fun ad e => by cases e⟩
  · refine ⟨_, cap, rfl, ⟨fun _ => ⟨_, rfl, hg.lt, fun j u hu => ?_⟩⟩, (fun e => by cases e), h1, h2, fun ad e => by cases e; exact ⟨rfl, hb, hg.lt⟩⟩
    rw [lit_add, hg.cell]
    rw [← h4, List.getElem?_take] at hu
    split at hu
    · simpa using hu
    · cases hu
theorem Ow.keep (h : Ow L w base v l) (hk : ∀ g, v.ownBlock = some g → w'.heap[g]? = w.heap[g]?) : Ow L w' base v l := by
  rcases h.form with ⟨rfl, rfl⟩ | ⟨g, cap, cs, rfl, hb, hg, h1, h2, h3, h4⟩
  · exact Ow.nil _ _ _
  · exact Ow.of hb ((hk g rfl).trans hg) h1 h2 h3 h4
theorem Ow.block (h : Ow L w base v l) : ∀ k, v.ownBlock = some k → base ≤ k ∧ k < w.heap.size := by
  intro k hk
  rcases h.form with ⟨rfl, rfl⟩ | ⟨g, cap, cs, rfl, hb, hg, _⟩
  · cases hk
  · cases hk
    exact ⟨hb, hg.lt⟩
theorem Ow.below (h : Ow L w base v l) (hb : Below B w w') (hB : w.heap.size ≤ B) : Ow L w' base v l := h.keep fun g hg => hb.block g (by have := (h.block g hg).2; omega)
theorem Ow.mono {b' : Nat} (h : Ow L w base v l) (hb : b' ≤ base) : Ow L w b' v l := by
  rcases h.form with ⟨rfl, rfl⟩ | ⟨g, cap, cs, rfl, hg0, hg, h1, h2, h3, h4⟩
  · exact Ow.nil _ _ _
  · exact Ow.of (by omega) hg h1 h2 h3 h4

/-- What a program says of a type of slices and of its elements. -/
structure LieAt (P : Program) (t : TypeId) (L : Lie α) : Prop where
  under : P.underlying t = some (.slice L.ty)
  info : ∃ i z, P.info? L.ty = some i ∧ i.zero = some z ∧ i.size = L.n ∧ i.bytes ≤ 64 ∧ z.cells.size = L.n
  pos : 0 < L.n
/-- append(own, others...): nil or not. -/
theorem append_ow {P : Program} {t : TypeId} (H : LieAt P t L) {l2 : List α} {n c : Nat} (h : Ow L w base v l) (hc : Rw L w B A l2) (hn : n = l2.length) (hz : A = none → c = 0) (hle : l.length + l2.length ≤ 1099511627776) (hb : base ≤ w.heap.size) :
    ∃ v' w', (∀ ty, (Builtin.append_ #[t, t] ty #[v, .slice A n c]).run P w = .ok v' w') ∧ Ow L w' base v' (l ++ l2) ∧ w.grownBy w' v.ownBlock := by
  obtain ⟨i, z, hi, hzr, hsz, hsm, hzs⟩ := H.info
  have hu := H.under
  subst hn
  rcases A with _ | ad
  · have hl0 : l2 = [] := by
      rcases l2 with _ | ⟨u, l2⟩
      · rfl
      · obtain ⟨ad, h, _⟩ := hc.here (by simp)
        cases h
    subst hl0
    rw [hz rfl]
    refine ⟨v, w, fun ty => ?_, by simpa using h, World.grownBy.refl w _⟩
    rcases h.form with ⟨rfl, rfl⟩ | ⟨g, cap, cs, rfl, _, _, h1, _⟩
    · simp [Builtin.append_, run_underlying hu, sizeOf, typeInfo, hi, Builtin.lenOf, Builtin.firstCells]
    · simp [Builtin.append_, run_underlying hu, sizeOf, typeInfo, hi, Builtin.lenOf, Builtin.firstCells, h1, storeCells]
  · have hmul : (l.length + l2.length) * i.bytes ≤ 1099511627776 * 64 := Nat.mul_le_mul hle hsm
    have go := run_append_own_at (P := P) w base t 0 L.ty i z L.n i.bytes hu hi hzr hsz rfl hzs H.pos v l.length (L.cells l) h ad l2.length c (L.cells l2) (L.cells_length l2)
      (fun j u hu => by
        obtain ⟨ad', e, _, hc⟩ := hc.here (by rintro rfl; simp [Lie.cells] at hu)
        cases e
        exact hc j u hu) (L.cells_one l2) (by simp [maxLen]; omega) (by omega) hb
    obtain ⟨v', w', hrun, ho, hg, _, _⟩ := go
    refine ⟨v', w', fun ty => hrun, ?_, hg⟩
    unfold Ow
    rw [List.length_append, L.cells_append]
    exact ho
/-- One more, out of a slice built for it. -/
theorem append_ow_one {P : Program} {t : TypeId} (H : LieAt P t L) (x : α) (h : Ow L w base v l) (hle : l.length < 1099511627776) (hb : base ≤ w.heap.size) :
    ∃ v' w', (∀ ty, (Builtin.append_ #[t, t] ty #[v, .slice (some ⟨w.heap.size, 0, none⟩) 1 1]).run P (w.alloc (.cells (L.enc x).toArray L.ty)) = .ok v' w') ∧ Ow L w' base v' (l ++ [x]) ∧ Below base w w' ∧ (∀ B, B ≤ w.heap.size → (∀ k, v.ownBlock = some k → B ≤ k) → Below B w w') ∧ (∀ k, k < w.heap.size → some k ≠ v.ownBlock → w'.heap[k]? = w.heap[k]?) := by
  have hO : Ow L (w.alloc (.cells (L.enc x).toArray L.ty)) base v l := h.keep fun g hg => Below.heap_alloc w _ g (h.block g hg).2
  have hC : Rw L (w.alloc (.cells (L.enc x).toArray L.ty)) (w.heap.size + 1) (some ⟨w.heap.size, 0, none⟩) [x] :=
    ⟨fun _ => ⟨_, rfl, by simp, fun j u hu => by
      rw [lit_add]
      have hB : Blk (w.alloc (.cells (L.enc x).toArray L.ty)) w.heap.size _ _ := heap_alloc_new w _
      rw [hB.cell j]
      simpa [Lie.cells] using hu⟩⟩
  obtain ⟨v', w', hrun, hO', hg⟩ := append_ow H (n := 1) (c := 1) hO hC rfl (fun e => by cases e) (by simp; omega) (by simp; omega)
  have hB : ∀ B, B ≤ w.heap.size → (∀ k, v.ownBlock = some k → B ≤ k) → Below B w w' := fun B hB hk => (((Below.refl B w).alloc hB _).grown hg (by simp; omega) hk)
  exact ⟨v', w', hrun, hO', hB base hb fun k hk => (h.block k hk).1, hB, fun k hk hne => (hg.block k (by simp; omega) hne).trans (Below.heap_alloc w _ k hk)⟩
end

theorem wpList_append_eq {P : Program} {w : World} {ops : Array Oper} {rest : List Oper} {o : Oper} {a : Act} {Q : Exit → Act → World → Prop} (hgd : o.guard = none) (s x : Operand) (t : TypeId)
    (ho : o.op = .call { callee := .builtin .append, args := #[s, x], argTypes := #[t, t] }) (v u v' : Value) (w' : World) (hs : a.eval s = v) (hx : a.eval x = u) (hrun : (Builtin.append_ #[t, t] o.type #[v, u]).run P w = .ok v' w')
    (h : wpList P ops Q rest (a.put o.dst v') w') : wpList P ops Q (o :: rest) a w :=
  wpList_plain hgd fun _ hK => by
    unfold Oper.wp execOp
    simp only [ho, resolve, invoke, builtin, Sem.run_bind, Sem.run_pure, Result.andThen_ok, List.map_toArray, List.map_cons, List.map_nil, hs, hx, hrun]
    exact hK _ _ h
end Go.Proofs.YtacmibkcnmaagaaDoor
