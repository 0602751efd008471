/-
  append onto a row whose elements are large; ShowLines' node in memory; how many lines its text has. Conditions: each theorem's own premises.
-/
import Derived.Test.YtpfehddkaapjiaaDoorQSwL
namespace Go.Proofs.YtpfehddkaapjiaaDoor
open Go.RowKit Go.Lib Go.Shelf

/-- What a program says of a type of slices and of its elements, large ones too. -/
structure LieAt2 {α : Type} (P : Program) (t : TypeId) (L : Lie α) : Prop where
  under : P.underlying t = some (.slice L.ty)
  info : ∃ i z, P.info? L.ty = some i ∧ i.zero = some z ∧ i.size = L.n ∧ i.bytes ≤ 1024 ∧ z.cells.size = L.n
  pos : 0 < L.n
theorem append_big {α : Type} {L : Lie α} {w : World} {base : Nat} {l : List α} {v : Value} {P : Program} {t : TypeId} (H : LieAt2 P t L) (x : α) (h : Ow L w base v l) (hle : l.length < 1000000) (hb : base ≤ w.heap.size) :
    ∃ v' w', (∀ ty, (Builtin.append_ #[t, t] ty #[v, .slice (some ⟨w.heap.size, 0, none⟩) 1 1]).run P (w.alloc (.cells (L.enc x).toArray L.ty)) = .ok v' w') ∧ Ow L w' base v' (l ++ [x]) ∧ Below base w w' ∧ w.heap.size < w'.heap.size ∧ (∀ k, k < w.heap.size → some k ≠ v.ownBlock → w'.heap[k]? = w.heap[k]?) ∧ (v'.ownBlock = v.ownBlock ∨ v'.ownBlock = some (w.heap.size + 1)) := by
  obtain ⟨i, z, hi, hzr, hsz, hsm, hzs⟩ := H.info
  have hO : Ow L (w.alloc (.cells (L.enc x).toArray L.ty)) base v l := h.keep fun g hg => Below.heap_alloc w _ g (h.block g hg).2
  have hB0 : Blk (w.alloc (.cells (L.enc x).toArray L.ty)) w.heap.size _ _ := heap_alloc_new w _
  have hmul : (l.length + 1) * i.bytes ≤ 1000000 * 1024 := Nat.mul_le_mul (by omega) hsm
  obtain ⟨v', w', hrun, ho, hg, _, hob⟩ := run_append_own_at (P := P) (w.alloc (.cells (L.enc x).toArray L.ty)) base t 0 L.ty i z L.n i.bytes H.under hi hzr hsz rfl hzs H.pos v l.length (L.cells l) hO ⟨w.heap.size, 0, none⟩ 1 1 (L.cells [x]) (L.cells_length [x])
    (fun j u hu => by
      rw [lit_add, hB0.cell j]
      simpa [Lie.cells] using hu) (L.cells_one [x]) (by simp [maxLen]; omega) (by omega) (by simp; omega)
  have hB : ∀ B, B ≤ w.heap.size → (∀ k, v.ownBlock = some k → B ≤ k) → Below B w w' := fun B hB hk => (((Below.refl B w).alloc hB _).grown hg (by simp; omega) hk)
  rw [World.size_alloc] at hob
  refine ⟨v', w', fun ty => hrun, ?_, hB base hb fun k hk => (h.block k hk).1, by have := hg.size; rw [World.size_alloc] at this; omega, fun k hk hne => (hg.block k (by simp; omega) hne).trans (Below.heap_alloc w _ k hk), hob⟩
  unfold Ow
  rw [List.length_append, L.cells_append]
  exact ho
theorem LQat : LieAt2 Tryd.prog 28 LQp := by
  have h : (Tryd.prog.info? 37).map (fun i => (i.zero, i.size, i.bytes)) = some (some (.agg #[.int .i64 0, .slice none 0 0, .int .i64 0, .int .i64 0, .int .i64 0, .string { data := #[] }, .slice none 0 0, .string { data := #[] }, .slice none 0 0, .string { data := #[] }]), 10, 152) := by kernel_rfl
  obtain ⟨i0, hi, hz0, hz1, hz2⟩ := info_parts h
  exact ⟨Tryd.underlying28, ⟨i0, _, hi, hz0, hz1, by omega, rfl⟩, by decide⟩

/-- The statement's one result. -/
def dX : Dc := ⟨0, [120], 1, none, 0, []⟩
/-- A local of its kind. -/
def LcOk (d : Dc) : Prop := ∃ s : List UInt8, d = ⟨0, s, 2, none, 0, []⟩ ∧ s.count 10 = 0 ∧ s.length ≤ 22
/-- An equation of its kind. -/
def EqOk (q : Qp) : Prop := ∃ (bb j : Nat), q = ⟨0, bb, 0, [120], .mk 1 0 (j : Int) [] none 0 []⟩ ∧ j ≤ 100
/-- The node in block k: what has come so far. -/
structure ShM (w W : World) (k : Nat) (v3 v4 : Value) (ls : List Dc) (qs : List Qp) : Prop where
  bel : Below w.heap.size w W
  le : w.heap.size ≤ k
  out : Blk W k 26 #[.int .i64 0, .string { data := #[120] }, .int .i64 1, .slice none 0 0]
  node : Blk W (k + 1) 30 #[.string { data := #[102] }, .slice none 0 0, .slice (some ⟨k, 0, none⟩) 1 1, v3, v4]
  o3 : Ow LD W (k + 2) v3 ls
  o4 : Ow LQp W (k + 2) v4 qs
  sep : ∀ b, v3.ownBlock = some b → v4.ownBlock ≠ some b
  lok : ∀ d ∈ ls, LcOk d
  qok : ∀ q ∈ qs, EqOk q
  qx : ∀ q ∈ qs, q.bb < W.heap.size ∧ v4.ownBlock ≠ some q.bb ∧ v3.ownBlock ≠ some q.bb ∧ k + 1 < q.bb ∧ W.cell? ⟨q.bb, 0, none⟩ = some (.string { data := #[120] })
section
variable {w W W' : World} {k : Nat} {v3 v4 v' : Value} {ls : List Dc} {qs : List Qp}
theorem ShM.start {w w1 : World} (hB : Below w.heap.size w w1) : ShM w ((w1.alloc (.cells #[.int .i64 0, .string { data := #[120] }, .int .i64 1, .slice none 0 0] 26)).alloc (.cells #[.string { data := #[102] }, .slice none 0 0, .slice (some ⟨w1.heap.size, 0, none⟩) 1 1, .slice none 0 0, .slice none 0 0] 30)) w1.heap.size (.slice none 0 0) (.slice none 0 0) [] [] :=
  ⟨(hB.alloc hB.size _).alloc (by have := hB.size; simp; omega) _, hB.size, Blk.alloc (heap_alloc_new w1 _) _, blkn (by simp), Ow.nil _ _ _, Ow.nil _ _ _, fun _ h => by simp [Value.ownBlock] at h, (fun _ h => by cases h), (fun _ h => by cases h), (fun _ h => by cases h)⟩
theorem ShM.below (h : ShM w W k v3 v4 ls qs) (hB : Below W.heap.size W W') : ShM w W' k v3 v4 ls qs :=
  ⟨h.bel.trans (hB.mono h.bel.size), h.le, h.out.below hB h.out.lt, h.node.below hB h.node.lt, h.o3.below hB (Nat.le_refl _), h.o4.below hB (Nat.le_refl _), h.sep, h.lok, h.qok, fun q hq => by
    obtain ⟨h1, h2, h3, h4, h5⟩ := h.qx q hq
    exact ⟨Nat.lt_of_lt_of_le h1 hB.size, h2, h3, h4, (hB.cell h1).trans h5⟩⟩
theorem ShM.alloc (h : ShM w W k v3 v4 ls qs) (o : Obj) : ShM w (W.alloc o) k v3 v4 ls qs := h.below ((Below.refl _ _).alloc (Nat.le_refl _) _)
/-- One local more. -/
theorem ShM.more3 (h : ShM w W k v3 (.slice none 0 0) ls []) (d : Dc) (hd : LcOk d) (hO : Ow LD W' (k + 2) v' (ls ++ [d])) (hB : Below (k + 2) W W') :
    ShM w (W'.setCell ⟨k + 1, 3, none⟩ v') k v' (.slice none 0 0) (ls ++ [d]) [] := by
  have hle := h.le
  refine ⟨(h.bel.trans (hB.mono (by omega))).setCell (p := ⟨k + 1, 3, none⟩) (by show w.heap.size ≤ k + 1; omega) _, h.le, (h.out.below hB (by omega)).far (by simp) _, (h.node.below hB (by omega)).set 3 v', hO.keep fun g hg => Below.heap_setCell _ _ _ _ (by have := (hO.block g hg).1; show g ≠ k + 1; omega), Ow.nil _ _ _, fun _ _ e => by simp [Value.ownBlock] at e, fun x hx => ?_, (fun _ h => by cases h), (fun _ h => by cases h)⟩
  rcases List.mem_append.1 hx with hx | hx
  · exact h.lok x hx
  · simp at hx
    subst hx
    exact hd
/-- One equation more. -/
theorem ShM.more4 (h : ShM w W k v3 v4 ls qs) (q : Qp) (hq : EqOk q) (hO : Ow LQp W' (k + 2) v' (qs ++ [q])) (hB : Below (k + 2) W W') (hs : W.heap.size < W'.heap.size) (hK : ∀ g, g < W.heap.size → some g ≠ v4.ownBlock → W'.heap[g]? = W.heap[g]?)
    (hob : v'.ownBlock = v4.ownBlock ∨ v'.ownBlock = some (W.heap.size + 1)) (hx : q.bb < W.heap.size ∧ v4.ownBlock ≠ some q.bb ∧ v3.ownBlock ≠ some q.bb ∧ k + 1 < q.bb ∧ W.cell? ⟨q.bb, 0, none⟩ = some (.string { data := #[120] })) :
    ShM w (W'.setCell ⟨k + 1, 4, none⟩ v') k v3 v' ls (qs ++ [q]) := by
  have hle := h.le
  have hfar : ∀ g, g ≠ k + 1 → (W'.setCell ⟨k + 1, 4, none⟩ v').heap[g]? = W'.heap[g]? := fun g hg => Below.heap_setCell _ _ _ _ hg
  have hv : ∀ g, g < W.heap.size → v4.ownBlock ≠ some g → v'.ownBlock ≠ some g := fun g hg h4 e => by
    rcases hob with e2 | e2
    · exact h4 (e2 ▸ e)
    · rw [e2] at e
      cases e
      omega
  have h3 : ∀ g, v3.ownBlock = some g → W'.heap[g]? = W.heap[g]? := fun g hg => hK g (h.o3.block g hg).2 (fun e => h.sep g hg e.symm)
  refine ⟨(h.bel.trans (hB.mono (by omega))).setCell (p := ⟨k + 1, 4, none⟩) (by show w.heap.size ≤ k + 1; omega) _, h.le, (h.out.below hB (by omega)).far (by simp) _, (h.node.below hB (by omega)).set 4 v', h.o3.keep fun g hg => (hfar g (by have := (h.o3.block g hg).1; omega)).trans (h3 g hg), hO.keep fun g hg => hfar g (by have := (hO.block g hg).1; omega), fun g hg => hv g (h.o3.block g hg).2 (h.sep g hg), h.lok, fun x hx => ?_, fun x hm => ?_⟩
  · rcases List.mem_append.1 hx with hx | hx
    · exact h.qok x hx
    · simp at hx
      subst hx
      exact hq
  · have go : x.bb < W.heap.size ∧ v4.ownBlock ≠ some x.bb ∧ v3.ownBlock ≠ some x.bb ∧ k + 1 < x.bb ∧ W.cell? ⟨x.bb, 0, none⟩ = some (.string { data := #[120] }) := by
      rcases List.mem_append.1 hm with hm | hm
      · exact h.qx x hm
      · simp at hm
        subst hm
        exact hx
    obtain ⟨g1, g2, g3, g4, g5⟩ := go
    refine ⟨by simp; omega, hv _ g1 g2, g3, g4, ?_⟩
    rw [World.cell?_of_block (a := ⟨x.bb, 0, none⟩) (hfar x.bb (by omega)), World.cell?_of_block (a := ⟨x.bb, 0, none⟩) (hK x.bb g1 (fun e => g2 e.symm))]
    exact g5
end
end Go.Proofs.YtpfehddkaapjiaaDoor
