/-
  Nodes in memory; the walks of tree's tooDeep, operands, validN. Conditions: each theorem's own premises.
-/
import Derived.Test.YtacmibkcnmaagaaDoorQTvB
namespace Go.Proofs.YtacmibkcnmaagaaDoor
open Go.RowKit Go.Lib
attribute [local go_sem] Oper.semAt_some

/-- A node, and where its lists lie. -/
structure Ng where
  name : List UInt8
  iA : Option Addr
  ic : Nat
  ins : List Dc
  oA : Option Addr
  oc : Nat
  outs : List Dc
  lA : Option Addr
  lc : Nat
  locs : List Dc
  qA : Option Addr
  qc : Nat
  eqs : List Qx
def Ng.val (n : Ng) : Value := .agg #[.string ⟨n.name.toArray⟩, .slice n.iA n.ins.length n.ic, .slice n.oA n.outs.length n.oc, .slice n.lA n.locs.length n.lc, .slice n.qA n.eqs.length n.qc]
/-- An equation in memory, with its names. -/
structure Qx.All (W : World) (K : Nat → Prop) (q : Qx) : Prop where
  ly : q.Lies W K
  left : Sl LN W K q.lA q.lc q.left
structure Ng.Lies (W : World) (K : Nat → Prop) (n : Ng) : Prop where
  i : Dl W K n.iA n.ic n.ins
  o : Dl W K n.oA n.oc n.outs
  l : Dl W K n.lA n.lc n.locs
  q : Sl LQ W K n.qA n.qc n.eqs
  e : ∀ q ∈ n.eqs, q.All W K
theorem Qx.All.keep {W W' : World} {K K' : Nat → Prop} {q : Qx} (h : q.All W K) (hK : ∀ b, K b → K' b) (hk : ∀ p : Addr, K p.block → W'.cell? p = W.cell? p) : q.All W' K' :=
  ⟨⟨h.ly.e.keep hK hk q.e, h.ly.l.keep hK hk⟩, h.left.keep hK hk⟩
theorem Dl.keep {W W' : World} {K K' : Nat → Prop} {A : Option Addr} {c : Nat} {l : List Dc} (h : Dl W K A c l) (hK : ∀ b, K b → K' b) (hk : ∀ p : Addr, K p.block → W'.cell? p = W.cell? p) : Dl W' K' A c l := ⟨h.sl.keep hK hk, fun d hd => (h.all d hd).keep hK hk⟩
theorem Ng.Lies.keep {W W' : World} {K K' : Nat → Prop} {n : Ng} (h : n.Lies W K) (hK : ∀ b, K b → K' b) (hk : ∀ p : Addr, K p.block → W'.cell? p = W.cell? p) : n.Lies W' K' :=
  ⟨h.i.keep hK hk, h.o.keep hK hk, h.l.keep hK hk, h.q.keep hK hk, fun q hq => (h.e q hq).keep hK hk⟩
theorem Ng.Lies.next {W W' : World} {n : Ng} (h : n.Lies W (· < W.heap.size)) (hB : Below W.heap.size W W') : n.Lies W' (· < W'.heap.size) := h.keep (fun _ hb => Nat.lt_of_lt_of_le hb hB.size) fun _ hp => hB.cell hp
theorem Qx.All.next {W W' : World} {q : Qx} (h : q.All W (· < W.heap.size)) (hB : Below W.heap.size W W') : q.All W' (· < W'.heap.size) := h.keep (fun _ hb => Nat.lt_of_lt_of_le hb hB.size) fun _ hp => hB.cell hp
theorem Ex.Lies.next {W W' : World} {e : Ex} (h : e.Lies W (· < W.heap.size)) (hB : Below W.heap.size W W') : e.Lies W' (· < W'.heap.size) := (h.below hB).more hB.size

/-- Is an equation too deep? -/
def deepQ (q : Qx) : Bool := decide (24 < q.e.dep) || q.l.any fun x => decide (24 < x.dep)
set_option maxRecDepth 100000 in
set_option maxHeartbeats 1000000 in
theorem deepQ_any (q : Qx) (w : World) (h : q.Lies w (· < w.heap.size)) : Calls Tryd.prog 76 #[q.val] w fun r w' => r = .returned (.bool (deepQ q)) ∧ Below w.heap.size w w' := by
  have hD : deepQ q = (decide (24 < q.e.dep) || q.l.any fun x => decide (24 < x.dep)) := rfl
  obtain ⟨len, hln⟩ : ∃ len, len = q.l.length := ⟨_, rfl⟩
  unfold Qx.val
  rw [← hln]
  obtain ⟨W1, hW1⟩ : ∃ W1, W1 = w.alloc (.cells #[.int .i64 q.pos, .slice q.lA q.left.length q.lc, .int .i64 q.e.op, .int .i64 q.e.pos, .int .i64 q.e.n, .string ⟨q.e.name.toArray⟩, .slice q.e.A q.e.l.length q.e.c, .string ⟨q.node.toArray⟩, .slice q.A len q.c, .string ⟨q.every.toArray⟩] 37) := ⟨_, rfl⟩
  have hB1 : Below w.heap.size w W1 := by rw [hW1]; exact (Below.refl _ _).alloc (Nat.le_refl _) _
  have hz1 : W1.heap.size = w.heap.size + 1 := by rw [hW1]; simp
  have hb : Blk W1 w.heap.size 37 #[.int .i64 q.pos, .slice q.lA q.left.length q.lc, .int .i64 q.e.op, .int .i64 q.e.pos, .int .i64 q.e.n, .string ⟨q.e.name.toArray⟩, .slice q.e.A q.e.l.length q.e.c, .string ⟨q.node.toArray⟩, .slice q.A len q.c, .string ⟨q.every.toArray⟩] := by rw [hW1]; exact heap_alloc_new w _
  have k2 : W1.cell? ⟨w.heap.size, 2, none⟩ = _ := hb.cell 2
  have k3 : W1.cell? ⟨w.heap.size, 3, none⟩ = _ := hb.cell 3
  have k4 : W1.cell? ⟨w.heap.size, 4, none⟩ = _ := hb.cell 4
  have k5 : W1.cell? ⟨w.heap.size, 5, none⟩ = _ := hb.cell 5
  have k6 : W1.cell? ⟨w.heap.size, 6, none⟩ = _ := hb.cell 6
  have HE := Lib.hid (deeper_any q.e 24 W1 (by omega) (h.e.next hB1))
  have HA := Lib.hid ((fun w2 (hB2 : Below W1.heap.size W1 w2) => hasX_any (fun x => decide (24 < x.dep)) q.A q.c q.l w2 (⟨(h.l.keep (fun b hb => Nat.lt_of_lt_of_le hb (hB1.trans (hB2.mono hB1.size)).size) fun p hp => (hB1.trans (hB2.mono hB1.size)).cell hp).hd, (h.l.keep (fun b hb => Nat.lt_of_lt_of_le hb (hB1.trans (hB2.mono hB1.size)).size) fun p hp => (hB1.trans (hB2.mono hB1.size)).cell hp).row⟩ : Sl LX w2 (· < w2.heap.size) q.A q.c q.l) (fun x hx W hB => by
    have hBw := (hB1.trans (hB2.mono hB1.size)).trans (hB.mono (hB1.trans (hB2.mono hB1.size)).size)
    have hx1 := h.l.all x hx
    have HX := Lib.hid (deeper_any x 24 (W.alloc (.cells #[.int .i64 x.op, .int .i64 x.pos, .int .i64 x.n, .string ⟨x.name.toArray⟩, .slice x.A x.l.length x.c] 34)) (by omega) (hx1.next (hBw.alloc hBw.size _)))
    unfold Ex.val at HX
    generalize decide (24 < x.dep) = r at *
    clear hD hln hB1 hz1 hb k2 k3 k4 k5 k6 HE h hx1 hBw hB hB2 hx hW1
    go_enter Tryd.func79, Tryd.ntmps79
    go_wp2_with fail
    refine HX.out.mono ?_
    rintro e w3 ⟨rfl, h2⟩
    have H2 : Hid (Below W.heap.size W w3) := Lib.hid (((Below.refl _ W).alloc (Nat.le_refl _) _).trans (h2.mono (by simp)))
    clear h2 HX
    go_wp2
    go_ret
    exact ⟨rfl, H2.out⟩)) : ∀ w2, Below W1.heap.size W1 w2 → _)
  rw [← hln] at HA
  rw [hD]
  generalize decide (24 < q.e.dep) = r1 at *
  generalize (q.l.any fun x => decide (24 < x.dep)) = r2 at *
  unfold Ex.val at HE
  have HB1 := Lib.hid hB1
  have Hb := Lib.hid hb
  clear hD hln hB1 hb h
  subst hW1
  cases r1
  · go_enter Tryd.func76, Tryd.ntmps76
    go_wp2_with fail
    refine HE.out.mono ?_
    rintro e w2 ⟨rfl, h2⟩
    have hb2 := Hb.out.below h2 Hb.out.lt
    have m8 : w2.cell? ⟨w.heap.size, 8, none⟩ = _ := hb2.cell 8
    have HA2 := Lib.hid (HA.out w2 h2)
    have HB2 := Lib.hid (HB1.out.trans (h2.mono HB1.out.size))
    clear h2 hb2 HE k2 k3 k4 k5 k6 HA hz1
    go_wp2_with fail
    refine HA2.out.mono ?_
    rintro e w3 ⟨rfl, h3⟩
    have HB3 := Lib.hid (HB2.out.trans (h3.mono HB2.out.size))
    clear h3 HA2
    go_wp2
    go_ret
    exact ⟨rfl, HB3.out⟩
  · clear HA
    go_enter Tryd.func76, Tryd.ntmps76
    go_wp2_with fail
    refine HE.out.mono ?_
    rintro e w2 ⟨rfl, h2⟩
    have HB2 := Lib.hid (HB1.out.trans (h2.mono HB1.out.size))
    clear h2 HE
    go_wp2
    go_ret
    exact ⟨rfl, HB2.out⟩
set_option maxRecDepth 100000 in
set_option maxHeartbeats 1000000 in
theorem tooDeep_any (n : Ng) (w : World) (h : n.Lies w (· < w.heap.size)) : Calls Tryd.prog 32 #[n.val] w fun r w' => r = .returned (.bool (n.eqs.any deepQ)) ∧ Below w.heap.size w w' := by
  obtain ⟨len, hln⟩ : ∃ len, len = n.eqs.length := ⟨_, rfl⟩
  unfold Ng.val
  rw [← hln]
  obtain ⟨W1, hW1⟩ : ∃ W1, W1 = w.alloc (.cells #[.string ⟨n.name.toArray⟩, .slice n.iA n.ins.length n.ic, .slice n.oA n.outs.length n.oc, .slice n.lA n.locs.length n.lc, .slice n.qA len n.qc] 30) := ⟨_, rfl⟩
  have hB1 : Below w.heap.size w W1 := by rw [hW1]; exact (Below.refl _ _).alloc (Nat.le_refl _) _
  have hb : Blk W1 w.heap.size 30 #[.string ⟨n.name.toArray⟩, .slice n.iA n.ins.length n.ic, .slice n.oA n.outs.length n.oc, .slice n.lA n.locs.length n.lc, .slice n.qA len n.qc] := by rw [hW1]; exact heap_alloc_new w _
  have k4 : W1.cell? ⟨w.heap.size, 4, none⟩ = _ := hb.cell 4
  have h1 := h.next hB1
  have HH := Lib.hid (hasQ_any deepQ n.qA n.qc n.eqs W1 h1.q (fun q hq W hB => deepQ_any q W (((h1.e q hq).next hB).ly)))
  rw [← hln] at HH
  have HB1 := Lib.hid hB1
  clear h h1 hb hB1 hln
  subst hW1
  generalize n.eqs.any deepQ = r at *
  go_enter Tryd.func32, Tryd.ntmps32
  go_wp2_with fail
  refine HH.out.mono ?_
  rintro e w2 ⟨rfl, h2⟩
  have HB2 := Lib.hid (HB1.out.trans (h2.mono HB1.out.size))
  clear h2 HH
  go_wp2
  go_ret
  exact ⟨rfl, HB2.out⟩
end Go.Proofs.YtacmibkcnmaagaaDoor
