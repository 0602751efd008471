/-
  The walk of All. Conditions: each theorem's own premises.
-/
import Derived.Test.YteceipngknhcfaaDoorQLxI
import Derived.Test.YteceipngknhcfaaDoorQTxR
namespace Go.Proofs.YteceipngknhcfaaDoor
open Go.Shelf Go.RowKit Go.Lib
attribute [local go_sem] Oper.semAt_some

/-- How a token lies. -/
def LT : Lie Tk := ⟨37, 4, fun t => [.int .i64 (t.kind : Int), .int .i64 (t.pos : Int), .string ⟨t.text.toArray⟩, .int .i64 (t.n : Int)], fun _ => rfl, fun _ u hu => by
  simp at hu
  rcases hu with rfl | rfl | rfl | rfl <;> rfl⟩
theorem LTat : LieAt Tryd.prog 23 LT := by
  have h : (Tryd.prog.info? 37).map (fun i => (i.zero, i.size, i.bytes)) = some (some (.agg #[.int .i64 0, .int .i64 0, .string { data := #[] }, .int .i64 0]), 4, 40) := by kernel_rfl
  obtain ⟨i0, hi, hz0, hz1, hz2⟩ := info_parts h
  exact ⟨Tryd.underlying23, ⟨i0, _, hi, hz0, hz1, by omega, rfl⟩, by decide⟩
/-- A token more, and what is kept by it. -/
theorem append_tok {v : Value} {L : List Tk} {W : World} {base : Nat} (t : Tk) (h : Ow LT W base v L) (hv : L = [] → v = .slice none 0 0) (hle : L.length < 1099511627776) (hb : base ≤ W.heap.size) :
    ∃ v' w', (∀ ty, (Builtin.append_ #[23, 23] ty #[v, .slice (some ⟨W.heap.size, 0, none⟩) 1 1]).run Tryd.prog (W.alloc (.cells (LT.enc t).toArray LT.ty)) = .ok v' w') ∧ Ow LT w' base v' (L ++ [t]) ∧ (∃ A n c, v' = .slice A n c) ∧ W.grownBy w' v.ownBlock ∧ KeepTok W w' := by
  obtain ⟨i, z, hi, hzr, hsz, hsm, hzs⟩ := LTat.info
  have hu := LTat.under
  have hA : Below W.heap.size W (W.alloc (.cells (LT.enc t).toArray LT.ty)) := (Below.refl _ _).alloc (Nat.le_refl _) _
  have hO : Ow LT (W.alloc (.cells (LT.enc t).toArray LT.ty)) base v L := h.keep fun g hg => Below.heap_alloc W _ g (h.block g hg).2
  have hN : ∀ j u, (LT.enc t)[j]? = some u → (W.alloc (.cells (LT.enc t).toArray LT.ty)).cell? ((⟨W.heap.size, 0, none⟩ : Addr).add j) = some u := fun j u hu => by
    rw [lit_add]
    have hB : Blk (W.alloc (.cells (LT.enc t).toArray LT.ty)) W.heap.size _ _ := heap_alloc_new W _
    rw [hB.cell j]
    simpa using hu
  have hmul : (L.length + 1) * i.bytes ≤ 1099511627776 * 64 := Nat.mul_le_mul (by omega) hsm
  have hgr : ∀ (w' : World), Below (W.alloc (.cells (LT.enc t).toArray LT.ty)).heap.size (W.alloc (.cells (LT.enc t).toArray LT.ty)) w' → W.grownBy w' v.ownBlock ∧ KeepTok W w' := fun w' hb' => by
    have hw := hA.trans (hb'.mono (by simp))
    exact ⟨⟨hw.os, hw.tape, hw.output, hw.size, fun k hk _ => hw.block k hk⟩, KeepTok.of_below hw⟩
  have hlast : ∀ (w' : World) (g cap : Nat) (cs : Array Value), base ≤ g → Blk w' g LT.ty cs → L.length + 1 ≤ cap → cap ≤ maxLen → cs.size = cap * LT.n → cs.toList.take ((L.length + 1) * LT.n) = LT.cells L ++ LT.enc t → Ow LT w' base (.slice (some ⟨g, 0, none⟩) (L.length + 1) cap) (L ++ [t]) := fun w' g cap cs h1 h2 h3 h4 h5 h6 => by
    have := Ow.of (L := LT) (l := L ++ [t]) h1 h2 (by simpa using h3) h4 h5 (by rw [LT.cells_append]; simpa [Lie.cells] using h6)
    simpa using this
  rcases hO.form with ⟨rfl, rfl⟩ | ⟨g, cap, cs, rfl, hbg, hg, h1, h2, h3, h4⟩
  · have hr := fun ty => run_append_nil (P := Tryd.prog) (W.alloc (.cells (LT.enc t).toArray LT.ty)) 23 ty LT.ty i z hu hi hzr ⟨W.heap.size, 0, none⟩ 1 1 (LT.enc t) (by rw [LT.len, hsz]; simp) hN (by omega) (by omega) (by omega)
    have hcap := grownCap_ge (W.alloc (.cells (LT.enc t).toArray LT.ty)) 1 0 LT.ty
    have hcm := grownCap_le_maxLen (W.alloc (.cells (LT.enc t).toArray LT.ty)) 1 0 LT.ty (by simp [maxLen])
    obtain ⟨k1, k2⟩ := hgr _ (((Below.refl _ _).drew).alloc (by simp) (.cells ((LT.enc t).toArray ++ Builtin.zeroCells z.cells (grownCap (W.alloc (.cells (LT.enc t).toArray LT.ty)) 1 0 LT.ty - 1)) LT.ty))
    refine ⟨_, _, hr, ?_, ⟨_, _, _, rfl⟩, k1, k2⟩
    refine hlast _ _ _ _ (by simp; omega) (heap_alloc_new (W.alloc (.cells (LT.enc t).toArray LT.ty)).drew _) hcap hcm ?_ ?_
    · simp only [Array.size_append, List.size_toArray, LT.len, size_zeroCells, hzs]
      rw [show LT.n = 4 from rfl]
      omega
    · rw [Array.toList_append]
      show (LT.enc t ++ _).take 4 = [] ++ LT.enc t
      rw [List.take_left' (by rw [LT.len]; rfl)]
      rfl
  · have hL : L ≠ [] := fun e => by have := hv e; cases this
    have hLp : 1 ≤ L.length := List.length_pos_iff.2 hL
    have h40 : LT.n = 4 := rfl
    by_cases hroom : L.length + 1 ≤ cap
    · have hr := fun ty => run_append_room (P := Tryd.prog) (W.alloc (.cells (LT.enc t).toArray LT.ty)) 23 ty LT.ty i hu hi g L.length cap cs hg ⟨W.heap.size, 0, none⟩ 1 1 (LT.enc t) (by rw [LT.len, hsz]; simp) hN (LT.one t) hroom (by rw [LT.len, hsz, h3, h40]; omega)
      obtain ⟨cs', hcs'⟩ : ∃ cs', cs' = (cs.toList.take (L.length * i.size) ++ LT.enc t ++ cs.toList.drop (L.length * i.size + (LT.enc t).length)).toArray := ⟨_, rfl⟩
      rw [← hcs'] at hr
      have hset := setRow_heap (W.alloc (.cells (LT.enc t).toArray LT.ty)) g cs cs' LT.ty (0, 0) hg
      have hoth : ∀ k, k ≠ g → ((W.alloc (.cells (LT.enc t).toArray LT.ty)).setRow g cs').heap[k]? = (W.alloc (.cells (LT.enc t).toArray LT.ty)).heap[k]? := fun k hk => setRow_other _ g k cs' hk
      have hc0 : cs'[0]? = cs[0]? := by
        rw [hcs', List.getElem?_toArray, List.append_assoc, List.getElem?_append_left (by simp; have : cs.size = cap * 4 := h3; rw [hsz, h40]; omega), List.getElem?_take, if_pos (by rw [hsz, h40]; omega)]
        simp
      have hgl : g < W.heap.size := (h.block g rfl).2
      have hgW : Blk W g LT.ty cs := (Below.heap_alloc W _ g hgl).symm.trans hg
      have hsize : ((W.alloc (.cells (LT.enc t).toArray LT.ty)).setRow g cs').heap.size = W.heap.size + 1 := by simp
      refine ⟨_, _, hr, hlast _ g cap cs' hbg hset hroom h2 ?_ ?_, ⟨_, _, _, rfl⟩, ⟨rfl, rfl, rfl, by omega, fun k hk hne => ?_⟩, ?_, ?_, ?_⟩
      · rw [hcs']
        simp only [List.size_toArray, List.length_append, List.length_take, List.length_drop, Array.length_toList, LT.len]
        have : cs.size = cap * 4 := h3
        rw [hsz, h40]
        omega
      · rw [hcs']
        have e4 : (cs.toList.take (L.length * i.size)).length = L.length * 4 := by simp; have : cs.size = cap * 4 := h3; rw [hsz, h40]; omega
        rw [show ((L.length + 1) * LT.n) = (cs.toList.take (L.length * i.size) ++ LT.enc t).length by rw [List.length_append, e4, LT.len, h40]; omega]
        show ((cs.toList.take (L.length * i.size) ++ LT.enc t) ++ _).take _ = _
        rw [List.take_left, ← h4, hsz]
      · rw [hoth k (fun e => hne (by rw [e]; rfl))]
        exact Below.heap_alloc W _ k hk
      · intro k cs2 hk
        have hkl := (Array.getElem?_eq_some_iff.1 hk).1
        rw [hoth k (fun e => ?_), Below.heap_alloc W _ k hkl]
        · exact hk
        · rw [e, show W.heap[g]? = _ from hgW] at hk
          cases hk
      · intro k cs2 hk
        have hkl := (Array.getElem?_eq_some_iff.1 hk).1
        by_cases e : k = g
        · subst e
          rw [show W.heap[k]? = _ from hgW] at hk
          cases hk
          exact ⟨cs', hset, hc0⟩
        · exact ⟨cs2, by rw [hoth k e, Below.heap_alloc W _ k hkl]; exact hk, rfl⟩
      · intro er he
        have cell : ∀ (q : Nat) (x : TypeId × Value), W.cell? ⟨q, 0, none⟩ = some (.iface x.1 x.2) → ((W.alloc (.cells (LT.enc t).toArray LT.ty)).setRow g cs').cell? ⟨q, 0, none⟩ = some (.iface x.1 x.2) := fun q x hq => by
          have hql := World.block_lt_of_cell? W _ hq
          have hne : q ≠ g := fun e => by
            subst e
            have h00 := (hgW.cell 0).symm.trans hq
            have : (LT.cells L)[0]? = some (Value.iface x.1 x.2) := by
              rw [← h4, List.getElem?_take, if_pos (by rw [h40]; omega)]
              simpa using h00
            have h01 := LT.cells_at L 0 (by omega) 0 (by decide)
            rw [show 0 * LT.n + 0 = 0 by omega, this] at h01
            cases h01
          exact (World.cell?_of_block (a := ⟨q, 0, none⟩) ((hoth q hne).trans (Below.heap_alloc W _ q hql))).trans hq
        obtain ⟨te, pe, hrn⟩ := he.rng
        exact ⟨cell _ (_, _) he.many, cell _ (_, _) he.rune, cell _ (_, _) he.numb, te, pe, cell _ (te, pe) hrn⟩
    · have holds : ∀ j u, (LT.cells L)[j]? = some u → (W.alloc (.cells (LT.enc t).toArray LT.ty)).cell? ((⟨g, 0, none⟩ : Addr).add j) = some u := World.ownsRow.cells hO (g := g) rfl
      have hnx := growslice_fits (need := L.length + 1) (old := cap) (bytes := i.bytes) (by omega) (by omega)
      have hr := fun ty => run_append_grow (P := Tryd.prog) (W.alloc (.cells (LT.enc t).toArray LT.ty)) 23 ty LT.ty i z hu hi hzr ⟨g, 0, none⟩ L.length cap (LT.cells L) (by rw [LT.cells_length, hsz]) holds ⟨W.heap.size, 0, none⟩ 1 1 (LT.enc t) (by rw [LT.len, hsz]; simp) hN (by omega) (by omega) hnx
      have hcap := grownCap_ge (W.alloc (.cells (LT.enc t).toArray LT.ty)) (L.length + 1) cap LT.ty
      have hcm := grownCap_le_maxLen (W.alloc (.cells (LT.enc t).toArray LT.ty)) (L.length + 1) cap LT.ty (by simp [maxLen]; omega)
      obtain ⟨k1, k2⟩ := hgr _ (((Below.refl _ _).drew).alloc (by simp) (.cells ((LT.cells L).toArray ++ (LT.enc t).toArray ++ Builtin.zeroCells z.cells (grownCap (W.alloc (.cells (LT.enc t).toArray LT.ty)) (L.length + 1) cap LT.ty - (L.length + 1))) LT.ty))
      refine ⟨_, _, hr, ?_, ⟨_, _, _, rfl⟩, k1, k2⟩
      refine hlast _ _ _ _ (by simp; omega) (heap_alloc_new (W.alloc (.cells (LT.enc t).toArray LT.ty)).drew _) hcap hcm ?_ ?_
      · simp only [Array.size_append, List.size_toArray, LT.len, LT.cells_length, size_zeroCells, hzs, h40]
        omega
      · rw [Array.toList_append, Array.toList_append]
        show (LT.cells L ++ LT.enc t ++ _).take _ = _
        rw [List.take_left' (by rw [List.length_append, LT.cells_length, LT.len, h40]; omega)]
end Go.Proofs.YteceipngknhcfaaDoor
