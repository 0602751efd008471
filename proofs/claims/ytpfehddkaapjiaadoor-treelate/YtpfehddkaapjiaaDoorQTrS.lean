/-
  TreeLate's memory: a variable with an expression, two rows of names that the call owns. Conditions: each theorem's own premises.
-/
import Derived.Test.YtpfehddkaapjiaaDoorQTrR
import Derived.Test.YtpfehddkaapjiaaDoorQTrK
namespace Go.Proofs.YtpfehddkaapjiaaDoor
open Go.RowKit Go.Lib Go.Sort Go.Shelf

/-- Blocks that are neither row's. -/
def Kv (v6 v7 : Value) (b0 n b : Nat) : Prop := v6.ownBlock ≠ some b ∧ v7.ownBlock ≠ some b ∧ b0 < b ∧ b < n
/-- An expression in block b0, a row of names each in v6 and v7. -/
structure MvS (w W : World) (b0 : Nat) (v6 v7 : Value) (deep now : List (List UInt8)) (e : Ex) : Prop where
  o6 : Ow LN W (b0 + 1) v6 deep
  o7 : Ow LN W (b0 + 1) v7 now
  blk : Blk W b0 34 #[.int .i64 e.op, .int .i64 e.pos, .int .i64 e.n, .string ⟨e.name.toArray⟩, .slice e.A e.l.length e.c]
  bel : Below w.heap.size w W
  le : w.heap.size ≤ b0
  sep : ∀ b, v6.ownBlock = some b → v7.ownBlock ≠ some b
  lies : e.Lies W (Kv v6 v7 b0 W.heap.size)
section
variable {w W W' : World} {b0 : Nat} {v6 v7 v' : Value} {deep now : List (List UInt8)} {e : Ex} {s : List UInt8}
theorem MvS.below (h : MvS w W b0 v6 v7 deep now e) (hB : Below W.heap.size W W') : MvS w W' b0 v6 v7 deep now e :=
  ⟨h.o6.below hB (Nat.le_refl _), h.o7.below hB (Nat.le_refl _), h.blk.below hB h.blk.lt, h.bel.trans (hB.mono h.bel.size), h.le, h.sep,
    Ex.Lies.keep (fun _ hb => ⟨hb.1, hb.2.1, hb.2.2.1, Nat.lt_of_lt_of_le hb.2.2.2 hB.size⟩) (fun _ hp => hB.cell hp.2.2.2) e h.lies⟩
theorem MvS.alloc (h : MvS w W b0 v6 v7 deep now e) (o : Obj) : MvS w (W.alloc o) b0 v6 v7 deep now e := h.below ((Below.refl _ _).alloc (Nat.le_refl _) _)
theorem MvS.grow6 (h : MvS w W b0 v6 v7 deep now e) (hO : Ow LN W' (b0 + 1) v' (deep ++ [s])) (hB : Below (b0 + 1) W W') (hs : W.heap.size < W'.heap.size) (hK : ∀ k, k < W.heap.size → some k ≠ v6.ownBlock → W'.heap[k]? = W.heap[k]?)
    (hob : v'.ownBlock = v6.ownBlock ∨ v'.ownBlock = some (W.heap.size + 1)) : MvS w W' b0 v' v7 (deep ++ [s]) now e :=
  ⟨hO, h.o7.keep fun g hg => hK g (h.o7.block g hg).2 (fun e => h.sep g e.symm hg), (hK b0 h.blk.lt (fun e => by have := (h.o6.block b0 e.symm).1; omega)).trans h.blk,
    h.bel.trans (hB.mono (by have := h.le; omega)), h.le, fun b hb hb7 => by
      rcases hob with e | e
      · exact h.sep b (e ▸ hb) hb7
      · rw [e] at hb
        cases hb
        have := (h.o7.block _ hb7).2
        omega,
    Ex.Lies.keep (fun b hb => ⟨fun e2 => by
      rcases hob with e | e
      · exact hb.1 (e ▸ e2)
      · rw [e] at e2
        cases e2
        have := hb.2.2.2
        omega, hb.2.1, hb.2.2.1, Nat.lt_trans hb.2.2.2 hs⟩) (fun p hp => World.cell?_of_block (hK p.block hp.2.2.2 (Ne.symm hp.1))) e h.lies⟩
theorem MvS.grow7 (h : MvS w W b0 v6 v7 deep now e) (hO : Ow LN W' (b0 + 1) v' (now ++ [s])) (hB : Below (b0 + 1) W W') (hs : W.heap.size < W'.heap.size) (hK : ∀ k, k < W.heap.size → some k ≠ v7.ownBlock → W'.heap[k]? = W.heap[k]?)
    (hob : v'.ownBlock = v7.ownBlock ∨ v'.ownBlock = some (W.heap.size + 1)) : MvS w W' b0 v6 v' deep (now ++ [s]) e :=
  ⟨h.o6.keep fun g hg => hK g (h.o6.block g hg).2 (fun e => h.sep g hg e.symm), hO, (hK b0 h.blk.lt (fun e => by have := (h.o7.block b0 e.symm).1; omega)).trans h.blk,
    h.bel.trans (hB.mono (by have := h.le; omega)), h.le, fun b hb hb7 => by
      rcases hob with e | e
      · exact h.sep b hb (e ▸ hb7)
      · rw [e] at hb7
        cases hb7
        have := (h.o6.block _ hb).2
        omega,
    Ex.Lies.keep (fun b hb => ⟨hb.1, fun e2 => by
      rcases hob with e | e
      · exact hb.2.1 (e ▸ e2)
      · rw [e] at e2
        cases e2
        have := hb.2.2.2
        omega, hb.2.2.1, Nat.lt_trans hb.2.2.2 hs⟩) (fun p hp => World.cell?_of_block (hK p.block hp.2.2.2 (Ne.symm hp.2.1))) e h.lies⟩
/-- Another expression. -/
theorem MvS.put (h : MvS w W b0 v6 v7 deep now e) (x : Ex) (hx : x.Lies W (Kv v6 v7 b0 W.heap.size)) :
    MvS w (((((W.setCell ⟨b0, 0, none⟩ (.int .i64 x.op)).setCell ⟨b0, 1, none⟩ (.int .i64 x.pos)).setCell ⟨b0, 2, none⟩ (.int .i64 x.n)).setCell ⟨b0, 3, none⟩ (.string ⟨x.name.toArray⟩)).setCell ⟨b0, 4, none⟩ (.slice x.A x.l.length x.c)) b0 v6 v7 deep now x := by
  have hf := five_other W b0 (.int .i64 x.op) (.int .i64 x.pos) (.int .i64 x.n) (.string ⟨x.name.toArray⟩) (.slice x.A x.l.length x.c)
  refine ⟨h.o6.keep fun g hg => hf g (by have := (h.o6.block g hg).1; omega), h.o7.keep fun g hg => hf g (by have := (h.o7.block g hg).1; omega), five_set h.blk _ _ _ _ _, ?_, h.le, h.sep, ?_⟩
  · exact ((((h.bel.setCell (p := ⟨b0, 0, none⟩) h.le _).setCell (p := ⟨b0, 1, none⟩) h.le _).setCell (p := ⟨b0, 2, none⟩) h.le _).setCell (p := ⟨b0, 3, none⟩) h.le _).setCell (p := ⟨b0, 4, none⟩) h.le _
  · exact Ex.Lies.keep (fun b hb => ⟨hb.1, hb.2.1, hb.2.2.1, by simpa using hb.2.2.2⟩) (fun p hp => World.cell?_of_block (hf p.block (by have := hp.2.2.1; omega))) x hx
/-- An expression over a list that is built for it. -/
theorem MvS.fresh (h : MvS w W b0 v6 v7 deep now e) (op pos n : Int) (s : List UInt8) (l : List Ex) (hl : l.length ≤ 100) (ha : ∀ x ∈ l, x.Lies W (Kv v6 v7 b0 W.heap.size)) :
    (Ex.mk op pos n s (some ⟨W.heap.size, 0, none⟩) l.length l).Lies (W.alloc (.cells (LX.cells l).toArray LX.ty)) (Kv v6 v7 b0 (W.alloc (.cells (LX.cells l).toArray LX.ty)).heap.size) :=
  lies_built W _ op pos n s l ⟨fun e => by have := (h.o6.block _ e).2; omega, fun e => by have := (h.o7.block _ e).2; omega, h.blk.lt, by simp⟩ hl fun x hx => Ex.Lies.keep (fun b hb => ⟨⟨hb.1, hb.2.1, hb.2.2.1, by have := hb.2.2.2; simp; omega⟩, hb.2.2.2⟩) (fun _ _ => rfl) x (ha x hx)
/-- The second row anew, of one name. -/
theorem MvS.new7 (h : MvS w W b0 v6 v7 deep now e) (s : List UInt8) : MvS w (W.alloc (.cells #[.string ⟨s.toArray⟩] 9)) b0 v6 (.slice (some ⟨W.heap.size, 0, none⟩) 1 1) deep [s] e := by
  have ha := h.alloc (.cells #[.string ⟨s.toArray⟩] 9)
  refine ⟨ha.o6, (ow_one LN W s).mono h.blk.lt, ha.blk, ha.bel, ha.le, fun b hb hb7 => ?_, ?_⟩
  · cases hb7
    exact Nat.lt_irrefl _ (h.o6.block _ hb).2
  · refine Ex.Lies.keep (fun b hb => ⟨hb.1, fun e2 => ?_, hb.2.2.1, ?_⟩) (fun p hp => World.cell?_alloc_lt _ _ _ hp.2.2.2) e h.lies
    · cases e2
      exact Nat.lt_irrefl _ hb.2.2.2
    · have := hb.2.2.2
      simp
      omega
/-- The second row left. -/
theorem MvS.nil7 (h : MvS w W b0 v6 v7 deep now e) : MvS w W b0 v6 (.slice none 0 0) deep [] e :=
  ⟨h.o6, Ow.nil _ _ _, h.blk, h.bel, h.le, fun _ _ e => by simp [Value.ownBlock] at e, Ex.Lies.keep (fun b hb => ⟨hb.1, by simp [Value.ownBlock], hb.2.2⟩) (fun _ _ => rfl) e h.lies⟩
end
end Go.Proofs.YtpfehddkaapjiaaDoor
