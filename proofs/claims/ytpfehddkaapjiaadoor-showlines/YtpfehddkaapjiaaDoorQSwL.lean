/-
  show's Node; what ShowLines' node is made of, in memory and as text. Conditions: each theorem's own premises.
-/
import Derived.Test.YtpfehddkaapjiaaDoorQSwK
import Derived.Test.YtpfehddkaapjiaaDoorQSwH
namespace Go.Proofs.YtpfehddkaapjiaaDoor
open Go.RowKit Go.Lib Go.Shelf
attribute [local go_sem] Oper.semAt_some

set_option maxRecDepth 100000 in
set_option maxHeartbeats 1000000 in
theorem snode_any (n : Nd) (w : World) (hL : n.Lies w w.heap.size) (ht : Tbs w) (hlen : n.shw.length + 100 ≤ 140737488355328) (hne : n.shw ≠ []) :
    Calls Tryd.prog 24 #[.agg #[.string ⟨n.name.toArray⟩, .slice n.iA n.ins.length n.ic, .slice n.oA n.outs.length n.oc, .slice n.lA n.locs.length n.lc, .slice n.qA n.eqs.length n.qc]] w fun r w' => r = .returned (.string ⟨n.shw.toArray⟩) ∧ Below w.heap.size w w' := by
  obtain ⟨W1, hW1⟩ : ∃ W1, W1 = w.alloc (.cells #[.string ⟨n.name.toArray⟩, .slice n.iA n.ins.length n.ic, .slice n.oA n.outs.length n.oc, .slice n.lA n.locs.length n.lc, .slice n.qA n.eqs.length n.qc] 30) := ⟨_, rfl⟩
  have hB1 : Below w.heap.size w W1 := by rw [hW1]; exact (Below.refl _ _).alloc (Nat.le_refl _) _
  have hb1 : Blk W1 w.heap.size 30 #[.string ⟨n.name.toArray⟩, .slice n.iA n.ins.length n.ic, .slice n.oA n.outs.length n.oc, .slice n.lA n.locs.length n.lc, .slice n.qA n.eqs.length n.qc] := by rw [hW1]; exact heap_alloc_new w _
  have hz1 : W1.heap.size = w.heap.size + 1 := by rw [hW1]; simp
  obtain ⟨W2, hW2⟩ : ∃ W2, W2 = W1.alloc (.cells #[.pointer none, .slice none 0 0] 101) := ⟨_, rfl⟩
  have hP : PrA (w.heap.size + 1) [] W2 := by
    have := pr_new W1
    rw [hz1] at this
    rw [hW2]
    exact this
  have hB2 : Below w.heap.size w W2 := by rw [hW2]; exact hB1.alloc (by omega) _
  have hb2 : Blk W2 w.heap.size 30 #[.string ⟨n.name.toArray⟩, .slice n.iA n.ins.length n.ic, .slice n.oA n.outs.length n.oc, .slice n.lA n.locs.length n.lc, .slice n.qA n.eqs.length n.qc] := by rw [hW2]; exact hb1.alloc _
  obtain ⟨⟨k0, k1, k2, k3, k4⟩, -⟩ := blkx hb2
  have mor : ∀ {α : Type} {L : Lie α} {A : Option Addr} {c : Nat} {l : List α}, Sl L w (· < w.heap.size) A c l → Sl L W2 (· < w.heap.size + 1) A c l := fun h => h.keep (fun b hb => Nat.lt_succ_of_lt hb) fun p hp => hB2.cell hp
  have hN : n.Lies W2 (w.heap.size + 1) := ⟨⟨mor hL.i.sl, fun d hd => mor (hL.i.all d hd)⟩, ⟨mor hL.o.sl, fun d hd => mor (hL.o.all d hd)⟩, ⟨mor hL.l.sl, fun d hd => mor (hL.l.all d hd)⟩, mor hL.q, fun q hq => by
    have h := hL.e q hq
    exact ⟨(h.e.below hB2).more (Nat.le_succ _), Nat.lt_succ_of_lt h.lt, (hB2.cell h.lt).trans h.x, h.rng⟩⟩
  have HE := Lib.hid (node_any (w.heap.size + 1) [] n W2 hP hN (TbB.of ht.tab ht.bef hB2 (by omega)) (by simpa using hlen))
  have HB2 := Lib.hid hB2
  clear hL ht hlen hP hB2 hb2 hb1 hB1 hz1 mor hN
  subst hW2
  subst hW1
  go_enter Tryd.func24, Tryd.ntmps24
  go_wp2_with fail
  refine HE.out.mono ?_
  rintro r w3 ⟨rfl, h3⟩
  have HS := Lib.hid (string_any (w.heap.size + 1) _ w3 h3.pr (by simpa using hne))
  have HB3 := Lib.hid (HB2.out.trans (h3.bel.mono (by omega)))
  clear h3 HE k0 k1 k2 k3 k4
  go_wp2_with fail
  refine HS.out.mono ?_
  rintro r w4 ⟨rfl, h4⟩
  have HB4 := Lib.hid (HB3.out.trans (h4.mono (by omega)))
  clear h4
  go_wp2
  go_ret
  exact ⟨rfl, HB4.out⟩

/-- A row of the call's own as a slice. -/
theorem Ow.sl {α : Type} {L : Lie α} {w : World} {base : Nat} {v : Value} {l : List α} (h : Ow L w base v l) : ∃ A c, v = .slice A l.length c ∧ Sl L w (· < w.heap.size) A c l := by
  obtain ⟨A, c, rfl, hr, h1, h2, h3, h4⟩ := h.rw
  refine ⟨A, c, rfl, ⟨h2, h1, fun hn => ?_, h3⟩, fun b o e j u hu => ?_⟩
  · obtain ⟨ad, rfl, hb, hc⟩ := hr.here (fun e => hn (by rw [e]; rfl))
    obtain ⟨e1, e2, e3⟩ := h4 ad rfl
    exact ⟨ad.block, 0, by rw [← e1], e3⟩
  · have hl : l ≠ [] := by rintro rfl; simp [Lie.cells] at hu
    obtain ⟨ad, e2, hb, hc⟩ := hr.here hl
    rw [e] at e2
    cases e2
    have := hc j u hu
    rwa [at_add] at this
theorem LDat : LieAt Tryd.prog 27 LD := by
  have h : (Tryd.prog.info? 26).map (fun i => (i.zero, i.size, i.bytes)) = some (some (.agg #[.int .i64 0, .string { data := #[] }, .int .i64 0, .slice none 0 0]), 4, 56) := by kernel_rfl
  obtain ⟨i0, hi, hz0, hz1, hz2⟩ := info_parts h
  exact ⟨Tryd.underlying27, ⟨i0, _, hi, hz0, hz1, by omega, rfl⟩, by decide⟩
end Go.Proofs.YtpfehddkaapjiaaDoor
