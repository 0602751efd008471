/-
  append onto a row whose elements are large. Conditions: each theorem's own premises.
-/
import Derived.Test.YtacmibkcnmaagaaDoorQTxU
import Derived.Test.YtacmibkcnmaagaaDoorQTrL
namespace Go.Proofs.YtacmibkcnmaagaaDoor
open Go.RowKit Go.Lib Go.Shelf

/-- What a program says of a type of slices and of its elements, large ones too. -/
structure LieAt2 {α : Type} (P : Program) (t : TypeId) (L : Lie α) : Prop where
  under : P.underlying t = some (.slice L.ty)
  info : ∃ i z, P.info? L.ty = some i ∧ i.zero = some z ∧ i.size = L.n ∧ i.bytes ≤ 1024 ∧ z.cells.size = L.n
  pos : 0 < L.n
theorem append_big {α : Type} {L : Lie α} {w : World} {base : Nat} {l : List α} {v : Value} {P : Program} {t : TypeId} (H : LieAt2 P t L) (x : α) (h : Ow L w base v l) (hle : l.length < 1000000) (hb : base ≤ w.heap.size) :
    ∃ v' w', (∀ ty, (Builtin.append_ #[t, t] ty #[v, .slice (some ⟨w.heap.size, 0, none⟩) 1 1]).run P (w.alloc (.cells (L.enc x).toArray L.ty)) = .ok v' w') ∧ Ow L w' base v' (l ++ [x]) ∧ Below base w w' ∧ w.heap.size < w'.heap.size ∧ (∀ k, k < w.heap.size → some k ≠ v.ownBlock → w'.heap[k]? = w.heap[k]?) ∧ (v'.ownBlock = v.ownBlock ∨ v'.ownBlock = some (w.heap.size + 1)) := by
  obtain ⟨i, z, hi, hzr, hsz, hsm, hzs⟩ := H.info
  have hO : Ow L (w.alloc (.cells (L.enc x).toArray L.ty)) base v l := h.keep fun g hg => Below.heap_alloc w _ g (h.block g hg).2
  have hB0 : Blk (w.alloc (.cells (L.enc x).toArray L.ty)) w.heap.size _ _ := heap_alloc_new w _
  have hmul : (l.length + 1) * i.bytes ≤ 1000000 * 1024 := Nat.mul_le_mul (by omega) hsm
  obtain ⟨v', w', hrun, ho, hg, _, hob⟩ := run_append_own_at (P := P) (w.alloc (.cells (L.enc x).toArray L.ty)) base t 0 L.ty i z L.n i.bytes H.under hi hzr hsz rfl hzs H.pos v l.length (L.cells l) hO ⟨w.heap.size, 0, none⟩ 1 1 (L.cells [x]) (L.cells_length [x])
    (fun j u hu => by
      rw [lit_add, hB0.cell j]
      simpa [Lie.cells] using hu) (L.cells_one [x]) (by simp [maxLen]; omega) (by omega) (by simp; omega)
  have hB : ∀ B, B ≤ w.heap.size → (∀ k, v.ownBlock = some k → B ≤ k) → Below B w w' := fun B hB hk => (((Below.refl B w).alloc hB _).grown hg (by simp; omega) hk)
  rw [World.size_alloc] at hob
  refine ⟨v', w', fun ty => hrun, ?_, hB base hb fun k hk => (h.block k hk).1, by have := hg.size; rw [World.size_alloc] at this; omega, fun k hk hne => (hg.block k (by simp; omega) hne).trans (Below.heap_alloc w _ k hk), hob⟩
  unfold Ow
  rw [List.length_append, L.cells_append]
  exact ho
/-- A call of a Go function, as one step of a region that draws. -/
theorem step_call_run7 {P : Program} {ops : Array Oper} {o : Oper} {a : Act} {w : World} {K : Act → World → Prop} {Q : Exit → Act → World → Prop} {E : Prop} (hgd : o.guard = none) {f : FuncId} {args : Array Value}
    (he : (execOp a.eval o).run P w = .ok (.enter f args) w) (h : Calls P f args w fun e w'' => ∃ v, e = .returned v ∧ K (a.put o.dst v) w'') :
    if Region.wanted o (yielded ops a.tmps) = true then Oper.wp P o a w K Q else E := by
  have hw : Region.wanted o (yielded ops a.tmps) = true := by simp [Region.wanted, hgd]
  rw [if_pos hw]
  unfold Oper.wp
  rw [he]
  refine Calls.mono h ?_
  rintro e w'' ⟨v, rfl, hK⟩
  exact hK
theorem LQat7 : LieAt2 Tryd.prog 28 LQ := by
  have h : (Tryd.prog.info? 37).map (fun i => (i.zero, i.size, i.bytes)) = some (some (.agg #[.int .i64 0, .slice none 0 0, .int .i64 0, .int .i64 0, .int .i64 0, .string { data := #[] }, .slice none 0 0, .string { data := #[] }, .slice none 0 0, .string { data := #[] }]), 10, 152) := by kernel_rfl
  obtain ⟨i0, hi, hz0, hz1, hz2⟩ := info_parts h
  exact ⟨Tryd.underlying28, ⟨i0, _, hi, hz0, hz1, by omega, rfl⟩, by decide⟩
end Go.Proofs.YtacmibkcnmaagaaDoor
