/-
  A variable that holds an expression, and an expression built out of others. Conditions: each theorem's own premises.
-/
import Derived.Test.YtpfehddkaapjiaaDoorQTrJ
namespace Go.Proofs.YtpfehddkaapjiaaDoor
open Go.RowKit Go.Lib Go.Sort Go.Shelf

/-- A variable of its own, in block b0, holds an expression whose lists lie behind it. -/
structure Ev0 (W : World) (b0 : Nat) (e : Ex) : Prop where
  lies : e.Lies W (fun b => b0 < b ∧ b < W.heap.size)
  blk : Blk W b0 34 #[.int .i64 e.op, .int .i64 e.pos, .int .i64 e.n, .string ⟨e.name.toArray⟩, .slice e.A e.l.length e.c]
theorem Ev0.below {W W' : World} {b0 : Nat} {e : Ex} (h : Ev0 W b0 e) (hB : Below W.heap.size W W') : Ev0 W' b0 e :=
  ⟨Ex.Lies.keep (fun _ hb => ⟨hb.1, Nat.lt_of_lt_of_le hb.2 hB.size⟩) (fun _ hp => hB.cell hp.2) e h.lies, h.blk.below hB h.blk.lt⟩
/-- Another expression is put there. -/
theorem Ev0.put {W : World} {b0 : Nat} {v0 v1 v2 v3 v4 : Value} (hb : Blk W b0 34 #[v0, v1, v2, v3, v4]) (x : Ex) (hx : x.Lies W (fun b => b0 < b ∧ b < W.heap.size)) :
    Ev0 (((((W.setCell ⟨b0, 0, none⟩ (.int .i64 x.op)).setCell ⟨b0, 1, none⟩ (.int .i64 x.pos)).setCell ⟨b0, 2, none⟩ (.int .i64 x.n)).setCell ⟨b0, 3, none⟩ (.string ⟨x.name.toArray⟩)).setCell ⟨b0, 4, none⟩ (.slice x.A x.l.length x.c)) b0 x :=
  ⟨Ex.Lies.keep (fun b hb => ⟨hb.1, by simpa using hb.2⟩) (fun p hp => World.cell?_of_block (five_other W b0 (.int .i64 x.op) (.int .i64 x.pos) (.int .i64 x.n) (.string ⟨x.name.toArray⟩) (.slice x.A x.l.length x.c) p.block (by have := hp.1; omega))) x hx,
    five_set hb (.int .i64 x.op) (.int .i64 x.pos) (.int .i64 x.n) (.string ⟨x.name.toArray⟩) (.slice x.A x.l.length x.c)⟩
/-- An expression over a list that is built for it. -/
theorem lies_built (W : World) (K : Nat → Prop) (op pos n : Int) (s : List UInt8) (l : List Ex) (hK : K W.heap.size) (hl : l.length ≤ 100) (ha : ∀ x ∈ l, x.Lies W (fun b => K b ∧ b < W.heap.size)) :
    (Ex.mk op pos n s (some ⟨W.heap.size, 0, none⟩) l.length l).Lies (W.alloc (.cells (LX.cells l).toArray LX.ty)) K :=
  Xs.lies (e := .mk op pos n s (some ⟨W.heap.size, 0, none⟩) l.length l) (xs_built W K l hK (by simp [maxLen]; omega) fun x hx => Ex.Lies.keep (fun _ hb => hb.1) (fun _ hp => World.cell?_alloc_lt _ _ _ hp.2) x (ha x hx))
end Go.Proofs.YtpfehddkaapjiaaDoor
