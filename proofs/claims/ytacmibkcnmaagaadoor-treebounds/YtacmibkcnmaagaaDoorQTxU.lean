/-
  append as a step of a region that draws. Conditions: its own premises.
-/
import Derived.Test.YtacmibkcnmaagaaDoorQTxR
import Derived.Deep.RegionHeld3
import Derived.Deep.AppendLies
import Derived.Lib.AppendZeros
namespace Go.Proofs.YtacmibkcnmaagaaDoor
open Go.RowKit Go.Lib

theorem step_append_run {P : Program} {ops : Array Oper} {o : Oper} {a : Act} {w : World} {K : Act → World → Prop} {Q : Exit → Act → World → Prop} {E : Prop} (hgd : o.guard = none) (s x : Operand) (t tn : TypeId)
    (ho : o.op = .call { callee := .builtin .append, args := #[s, x], argTypes := #[t, tn] }) (vs vx : Value) (hs : a.eval s = vs) (hx : a.eval x = vx)
    (v' : Value) (w' : World) (hr : (Builtin.append_ #[t, tn] o.type #[vs, vx]).run P w = .ok v' w') (h : K (a.put o.dst v') w') :
    if Region.wanted o (yielded ops a.tmps) = true then Oper.wp P o a w K Q else E := by
  have hw : Region.wanted o (yielded ops a.tmps) = true := by simp [Region.wanted, hgd]
  rw [if_pos hw]
  exact wp_append_run w s x t tn ho vs vx hs hx v' w' hr h
section
variable {α : Type} {L : Lie α} {w w' : World} {B B' base : Nat} {A : Option Addr} {l : List α} {v : Value}
/-- append(own, others...), and which block the row then has. -/
theorem append_ow2 {P : Program} {t : TypeId} (H : LieAt P t L) {l2 : List α} {n c : Nat} (h : Ow L w base v l) (hc : Rw L w B A l2) (hn : n = l2.length) (hz : A = none → c = 0) (hle : l.length + l2.length ≤ 1099511627776) (hb : base ≤ w.heap.size) :
    ∃ v' w', (∀ ty, (Builtin.append_ #[t, t] ty #[v, .slice A n c]).run P w = .ok v' w') ∧ Ow L w' base v' (l ++ l2) ∧ w.grownBy w' v.ownBlock ∧ (v'.ownBlock = v.ownBlock ∨ v'.ownBlock = some w.heap.size) := by
  obtain ⟨i, z, hi, hzr, hsz, hsm, hzs⟩ := H.info
  have hu := H.under
  subst hn
  rcases A with _ | ad
  · have hl0 : l2 = [] := by
      rcases l2 with _ | ⟨u, l2⟩
      · rfl
      · obtain ⟨ad, h, _⟩ := hc.here (by simp)
        cases h
    subst hl0
    rw [hz rfl]
    refine ⟨v, w, fun ty => ?_, by simpa using h, World.grownBy.refl w _, .inl rfl⟩
    rcases h.form with ⟨rfl, rfl⟩ | ⟨g, cap, cs, rfl, _, _, h1, _⟩
    · simp [Builtin.append_, run_underlying hu, sizeOf, typeInfo, hi, Builtin.lenOf, Builtin.firstCells]
    · simp [Builtin.append_, run_underlying hu, sizeOf, typeInfo, hi, Builtin.lenOf, Builtin.firstCells, h1, storeCells]
  · have hmul : (l.length + l2.length) * i.bytes ≤ 1099511627776 * 64 := Nat.mul_le_mul hle hsm
    have go := run_append_own_at (P := P) w base t 0 L.ty i z L.n i.bytes hu hi hzr hsz rfl hzs H.pos v l.length (L.cells l) h ad l2.length c (L.cells l2) (L.cells_length l2)
      (fun j u hu => by
        obtain ⟨ad', e, _, hc⟩ := hc.here (by rintro rfl; simp [Lie.cells] at hu)
        cases e
        exact hc j u hu) (L.cells_one l2) (by simp [maxLen]; omega) (by omega) hb
    obtain ⟨v', w', hrun, ho, hg, _, hob⟩ := go
    refine ⟨v', w', fun ty => hrun, ?_, hg, hob⟩
    unfold Ow
    rw [List.length_append, L.cells_append]
    exact ho
/-- One more, out of a slice built for it, and which block the row then has. -/
theorem append_ow_one2 {P : Program} {t : TypeId} (H : LieAt P t L) (x : α) (h : Ow L w base v l) (hle : l.length < 1099511627776) (hb : base ≤ w.heap.size) :
    ∃ v' w', (∀ ty, (Builtin.append_ #[t, t] ty #[v, .slice (some ⟨w.heap.size, 0, none⟩) 1 1]).run P (w.alloc (.cells (L.enc x).toArray L.ty)) = .ok v' w') ∧ Ow L w' base v' (l ++ [x]) ∧ Below base w w' ∧ w.heap.size < w'.heap.size ∧ (∀ k, k < w.heap.size → some k ≠ v.ownBlock → w'.heap[k]? = w.heap[k]?) ∧ (v'.ownBlock = v.ownBlock ∨ v'.ownBlock = some (w.heap.size + 1)) := by
  have hO : Ow L (w.alloc (.cells (L.enc x).toArray L.ty)) base v l := h.keep fun g hg => Below.heap_alloc w _ g (h.block g hg).2
  have hC : Rw L (w.alloc (.cells (L.enc x).toArray L.ty)) (w.heap.size + 1) (some ⟨w.heap.size, 0, none⟩) [x] :=
    ⟨fun _ => ⟨_, rfl, by simp, fun j u hu => by
      rw [lit_add]
      have hB : Blk (w.alloc (.cells (L.enc x).toArray L.ty)) w.heap.size _ _ := heap_alloc_new w _
      rw [hB.cell j]
      simpa [Lie.cells] using hu⟩⟩
  obtain ⟨v', w', hrun, hO', hg, hob⟩ := append_ow2 H (n := 1) (c := 1) hO hC rfl (fun e => by cases e) (by simp; omega) (by simp; omega)
  have hB : ∀ B, B ≤ w.heap.size → (∀ k, v.ownBlock = some k → B ≤ k) → Below B w w' := fun B hB hk => (((Below.refl B w).alloc hB _).grown hg (by simp; omega) hk)
  rw [World.size_alloc] at hob
  exact ⟨v', w', hrun, hO', hB base hb fun k hk => (h.block k hk).1, by have := hg.size; rw [World.size_alloc] at this; omega, fun k hk hne => (hg.block k (by simp; omega) hne).trans (Below.heap_alloc w _ k hk), hob⟩
end
end Go.Proofs.YtacmibkcnmaagaaDoor
