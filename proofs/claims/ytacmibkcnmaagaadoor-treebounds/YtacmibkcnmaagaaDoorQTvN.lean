/-
  The nodes of the law TreeNames in memory. Conditions: each theorem's own premises.
-/
import Derived.Test.YtacmibkcnmaagaaDoorQTvM
namespace Go.Proofs.YtacmibkcnmaagaaDoor
open Go.RowKit Go.Lib

/-- A row in a block of its own is a slice in memory. -/
theorem Sl.of_blk {α : Type} {L : Lie α} {W : World} {K : Nat → Prop} {k : Nat} {t : TypeId} {l : List α} (hb : Blk W k t (L.cells l).toArray) (hK : K k) (hl : l.length ≤ 100) : Sl L W K (some ⟨k, 0, none⟩) l.length l :=
  ⟨⟨Nat.le_refl _, (fun h => by cases h), fun _ => ⟨_, _, rfl, hK⟩, by simp [maxLen]; omega⟩, fun b o e j u hu => by
    cases e
    rw [Nat.zero_add, hb.cell j]
    simpa using hu⟩
/-- What the law's node wants of memory: its rows. -/
structure Nms.Rows (p : Nms) (W : World) (B g : Nat) : Prop where
  i : Blk W B 26 #[.int .i64 3, .string ⟨p.i.toArray⟩, .int .i64 2, .slice none 0 0]
  o : Blk W (B + 1) 26 #[.int .i64 4, .string ⟨p.o.toArray⟩, .int .i64 1, .slice none 0 0]
  c : Blk W (B + 2) 44 #[.string ⟨p.c.toArray⟩, .bool true]
  l : Blk W (B + 3) 26 #[.int .i64 5, .string ⟨#[121]⟩, .int .i64 1, .slice (some ⟨B + 2, 0, none⟩) 1 1]
  n1 : Blk W (B + 5) 9 #[.string ⟨p.l1.toArray⟩]
  n2 : Blk W g 9 (LN.cells p.l2).toArray
  q : Blk W (B + 7) 37 #[.int .i64 6, .slice (some ⟨B + 5, 0, none⟩) 1 1, .int .i64 3, .int .i64 7, .int .i64 0, .string ⟨p.v.toArray⟩, .slice none 0 0, .string ⟨#[]⟩, .slice none 0 0, .string ⟨#[]⟩,
    .int .i64 8, .slice (some ⟨g, 0, none⟩) p.l2.length p.l2.length, .int .i64 0, .int .i64 0, .int .i64 0, .string ⟨#[]⟩, .slice none 0 0, .string ⟨#[103]⟩, .slice none 0 0, .string ⟨p.ev.toArray⟩]
theorem bare_lies (W : World) (K : Nat → Prop) (op pos n : Int) (s : List UInt8) : (Ex.mk op pos n s none 0 []).Lies W K := Xs.lies (e := .mk op pos n s none 0 []) (Xs.nil W K)
theorem Nms.Rows.lies {p : Nms} {W : World} {B g : Nat} (h : p.Rows W B g) (hl : p.l2.length ≤ 100) : (p.ng B g).Lies W (· < W.heap.size) where
  i := ⟨Sl.of_blk (L := LD) (l := ([⟨3, p.i, 2, none, 0, []⟩] : List Dc)) h.i h.i.lt (by simp), fun d hd => by rw [List.mem_singleton.1 hd]; exact Sl.nil _ _ _⟩
  o := ⟨Sl.of_blk (L := LD) (l := ([⟨4, p.o, 1, none, 0, []⟩] : List Dc)) h.o h.o.lt (by simp), fun d hd => by rw [List.mem_singleton.1 hd]; exact Sl.nil _ _ _⟩
  l := ⟨Sl.of_blk (L := LD) (l := ([⟨5, [121], 1, some ⟨B + 2, 0, none⟩, 1, [(p.c, true)]⟩] : List Dc)) h.l h.l.lt (by simp), fun d hd => by rw [List.mem_singleton.1 hd]; exact Sl.of_blk (L := LC) (l := [(p.c, true)]) h.c h.c.lt (by simp)⟩
  q := Sl.of_blk (L := LQ) (l := (p.ng B g).eqs) h.q h.q.lt (by unfold Nms.ng; simp)
  e := fun q hq => by
    unfold Nms.ng at hq
    simp only [List.mem_cons, List.not_mem_nil, or_false] at hq
    rcases hq with rfl | rfl
    · exact ⟨⟨bare_lies _ _ _ _ _ _, Xs.nil _ _⟩, Sl.of_blk (L := LN) (l := [p.l1]) h.n1 h.n1.lt (by simp)⟩
    · exact ⟨⟨bare_lies _ _ _ _ _ _, Xs.nil _ _⟩, Sl.of_blk h.n2 h.n2.lt hl⟩
theorem Nms.fits (p : Nms) (B g : Nat) : ∀ x ∈ (p.ng B g).eqs, x.fits 1 := fun x hx => by
  unfold Nms.ng at hx
  simp only [List.mem_cons, List.not_mem_nil, or_false] at hx
  rcases hx with rfl | rfl
  · exact ⟨by simp [Qx.exprs, depL, Ex.dep], by simp [Qx.exprs], by simp [Qx.exprs, slimL, Ex.slim], by simp⟩
  · exact ⟨by simp [Qx.exprs, depL], by simp [Qx.exprs], by simp [Qx.exprs, slimL], by simp⟩
end Go.Proofs.YtacmibkcnmaagaaDoor
