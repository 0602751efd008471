/-
  What tree.Valid says, as plain data; marks among the deferred calls. Conditions: each theorem's own premises.
-/
import Derived.Test.YtacmibkcnmaagaaDoorQTvD
import Derived.Test.YtacmibkcnmaagaaDoorQTvF
import Derived.Test.YtacmibkcnmaagaaDoorQTvG
import Derived.Test.YtacmibkcnmaagaaDoorQTvI
import Derived.Test.YtacmibkcnmaagaaDoorQTvJ
namespace Go.Proofs.YtacmibkcnmaagaaDoor
open Go.RowKit Go.Lib Go.Sort Go.Shelf

/-- The first variable with which something is amiss; those from m on are locals. -/
def declsE (m : Nat) : Nat → List Dc → Option (Int × Nat)
  | _, [] => none
  | i, d :: r => match declE d (decide (m ≤ i)) with
    | some k => some (d.pos, k)
    | none => declsE m (i + 1) r
/-- The first part. -/
def partsE : List Ex → Option (Int × Nat)
  | [] => none
  | e :: r => match partE e with
    | some k => some (e.pos, k)
    | none => partsE r
/-- The first equation, or the first of its parts. -/
def eqsE : List Qx → Option (Int × Nat)
  | [] => none
  | q :: r => match eqE q with
    | some k => some (q.pos, k)
    | none => match partsE (partsL q.exprs) with
      | some x => some x
      | none => eqsE r
/-- What is amiss with a node, and where, if that is told. -/
def validE (n : Ng) : Option (Option Int × Nat) :=
  if badN n.name = true then some (none, 8) else if manyB n = true then some (none, 2) else if n.eqs.any deepQ = true then some (none, 7) else
  match declsE (n.ins.length + n.outs.length) 0 (n.ins ++ (n.outs ++ n.locs)) with
  | some x => some (some x.1, x.2)
  | none => (eqsE n.eqs).map fun x => (some x.1, x.2)
theorem declsE_drop (m : Nat) (l : List Dc) : ∀ i, (hi : i < l.length) → declsE m i (l.drop i) = match declE l[i] (decide (m ≤ i)) with | some k => some (l[i].pos, k) | none => declsE m (i + 1) (l.drop (i + 1)) := fun i hi => by
  rw [List.drop_eq_getElem_cons hi]
  rfl
theorem eqsE_drop (l : List Qx) : ∀ i, (hi : i < l.length) → eqsE (l.drop i) = match eqE l[i] with | some k => some (l[i].pos, k) | none => match partsE (partsL l[i].exprs) with | some x => some x | none => eqsE (l.drop (i + 1)) := fun i hi => by
  rw [List.drop_eq_getElem_cons hi]
  rfl
theorem partsE_append (a : List Ex) (r : List Ex) (h : ∀ e ∈ a, partE e = none) : partsE (a ++ r) = partsE r := by
  induction a with
  | nil => rfl
  | cons e a ih =>
    show (match partE e with | some k => some (e.pos, k) | none => partsE (a ++ r)) = _
    rw [h e (by simp)]
    exact ih fun x hx => h x (by simp [hx])
/-- What Valid leaves. -/
def RetVa (w : World) (er : Nat → Addr) (o : Option (Option Int × Nat)) (e : Ending) (w' : World) : Prop :=
  Below w.heap.size w w' ∧ match o with
  | none => e = .returned .nilIface
  | some (none, k) => e = .returned (erO er (some k))
  | some (some p, k) => ∃ b, w.heap.size ≤ b ∧ e = .returned (.iface 62 (.pointer (some ⟨b, 0, none⟩))) ∧ Blk w' b 64 #[.int .i64 p, erO er (some k)]

/-- Marks of ranges over functions, each with nothing to call. -/
structure Marks (W : World) (base : Nat) (ds : List Deferred) : Prop where
  at_ : ∀ d ∈ ds, ∃ D, d = { target := .collected D, args := #[] } ∧ base ≤ D ∧ W.heap[D]? = some (.deferred (some []))
  one : ds.Nodup
theorem Marks.nil (W : World) (base : Nat) : Marks W base [] := ⟨fun d h => absurd h (by simp), List.nodup_nil⟩
theorem Marks.below {W W' : World} {base : Nat} {ds : List Deferred} (h : Marks W base ds) (hb : Below W.heap.size W W') : Marks W' base ds :=
  ⟨fun d hd => by
    obtain ⟨D, e, hl, hD⟩ := h.at_ d hd
    exact ⟨D, e, hl, (hb.block D (Array.getElem?_eq_some_iff.1 hD).1).trans hD⟩, h.one⟩
theorem Marks.more {W : World} {base : Nat} {ds : List Deferred} (h : Marks W base ds) {D : Nat} (hl : base ≤ D) (hD : W.heap[D]? = some (.deferred (some []))) (hn : ∀ d ∈ ds, ∀ E, d = { target := .collected E, args := #[] } → E ≠ D) : Marks W base ({ target := .collected D, args := #[] } :: ds) :=
  ⟨fun d hd => by
    rcases List.mem_cons.1 hd with rfl | hd
    · exact ⟨D, rfl, hl, hD⟩
    · exact h.at_ d hd, List.nodup_cons.2 ⟨fun hm => by exact hn _ hm D rfl rfl, h.one⟩⟩
theorem Marks.setCell {W : World} {base : Nat} {ds : List Deferred} (h : Marks W base ds) {p : Addr} (hp : p.block < base) (v : Value) : Marks (W.setCell p v) base ds :=
  ⟨fun d hd => by
    obtain ⟨D, e, hl, hD⟩ := h.at_ d hd
    exact ⟨D, e, hl, (Below.heap_setCell _ _ _ _ (by omega)).trans hD⟩, h.one⟩
/-- On its way out, a function passes its marks. -/
theorem leaves_marks {n : Nat} {P : Program} {fn : Func} {tmps : Array Value} {R : Ending → World → Prop} {base : Nat} (I : World → Prop) (hI : ∀ W D, base ≤ D → W.heap[D]? = some (.deferred (some [])) → I W → I (W.putObj D (.deferred none)))
    (hfin : ∀ W, I W → LeavesInM Fence.wide n P fn tmps R [] .returning W) : ∀ (ds : List Deferred) (W : World), Marks W base ds → I W → LeavesInM Fence.wide n P fn tmps R ds .returning W
  | [], W, _, hi => hfin W hi
  | d :: ds, W, hm, hi => by
    obtain ⟨D, rfl, hl, hD⟩ := hm.at_ d (by simp)
    refine ⟨by simp, .inl ⟨_, _, rfl, run_takeDeferred hD, ?_⟩⟩
    refine leaves_marks I hI hfin ds _ ⟨fun d' hd' => ?_, (List.nodup_cons.1 hm.one).2⟩ (hI _ _ hl hD hi)
    obtain ⟨D', rfl, hl', hD'⟩ := hm.at_ d' (by simp [hd'])
    have hne : D' ≠ D := by
      rintro rfl
      exact (List.nodup_cons.1 hm.one).1 hd'
    refine ⟨D', rfl, hl', ?_⟩
    rw [← hD']
    show (W.heap.setIfInBounds D _)[D']? = _
    rw [Array.getElem?_setIfInBounds_ne (Ne.symm hne)]
theorem putObj_heap_ne {W : World} {D k : Nat} {o : Obj} (h : k ≠ D) : (W.putObj D o).heap[k]? = W.heap[k]? := by
  show (W.heap.setIfInBounds D _)[k]? = _
  rw [Array.getElem?_setIfInBounds_ne (Ne.symm h)]
theorem RetVa.put {w W : World} {er : Nat → Addr} {o : Option (Option Int × Nat)} {e : Ending} (h : RetVa w er o e W) {D : Nat} (hl : w.heap.size ≤ D) (hD : W.heap[D]? = some (.deferred (some []))) (x : Obj) : RetVa w er o e (W.putObj D x) := by
  refine ⟨⟨h.1.os, h.1.tape, h.1.output, (by show w.heap.size ≤ (W.heap.setIfInBounds D x).size; rw [Array.size_setIfInBounds]; exact h.1.size), fun k hk => (putObj_heap_ne (by omega)).trans (h.1.block k hk)⟩, ?_⟩
  have h2 := h.2
  match o, h2 with
  | none, h2 => exact h2
  | some (none, k), h2 => exact h2
  | some (some p, k), ⟨b, h3, h4, h5⟩ =>
    refine ⟨b, h3, h4, ?_⟩
    have hne : b ≠ D := by
      rintro rfl
      have h6 : W.heap[b]? = _ := h5
      rw [hD] at h6
      cases h6
    exact (putObj_heap_ne hne).trans h5
/-- Where the range over an equation's parts stands. -/
def VrI (W4 : World) (pre : List Ex) (W : World) : Prop := Below W4.heap.size W4 W ∧ ∀ e ∈ pre, partE e = none
theorem VrI.own (W4 : World) : OwnFrom W4.heap.size (VrI W4) := fun _ _ _ _ hs hg hr => ⟨hs.1.grown hg hs.1.size (fun k e => by have := (hr k e).1; omega), hs.2⟩
/-- .. and where it is left. -/
def VrX (w W4 : World) (er : Nat → Addr) (c : Code) (xs : List Ex) (W : World) : Prop :=
  c = .ret ∧ ∃ (p : Int) (kd b : Nat), (∃ pre y, xs = pre ++ [y] ∧ (∀ e ∈ pre, partE e = none) ∧ partE y = some kd ∧ p = y.pos) ∧ W4.heap.size ≤ b ∧ Blk W b 64 #[.int .i64 p, .iface 188 (.pointer (some (er kd)))] ∧ Blk W (w.heap.size + 1) 39 #[.iface 62 (.pointer (some ⟨b, 0, none⟩))] ∧
    Below w.heap.size w W ∧ W4.heap.size ≤ W.heap.size ∧ ∀ D, w.heap.size + 2 ≤ D → D < W4.heap.size → W.heap[D]? = W4.heap[D]?
theorem VrX.own {w W4 : World} {er : Nat → Addr} (hz : w.heap.size + 2 ≤ W4.heap.size) (c : Code) : OwnFrom W4.heap.size (VrX w W4 er c) := fun _ _ _ _ hs hg hr => by
  obtain ⟨h0, p, kd, b, h1, h2, h3, h4, h5, h6, h7⟩ := hs
  exact ⟨h0, p, kd, b, h1, h2, blk_ow h3 hg hr, blk_ow h4 hg hr, h5.grown hg h5.size (fun k e => by have := (hr k e).1; omega), Nat.le_trans h6 hg.size,
    fun D hl hD => (hg.block D (by omega) (fun e => by have := (hr D e.symm).1; omega)).trans (h7 D hl hD)⟩
theorem partsE_hit {l pre : List Ex} {y : Ex} {kd : Nat} (h : pre ++ [y] <+: l) (hp : ∀ e ∈ pre, partE e = none) (hy : partE y = some kd) : partsE l = some (y.pos, kd) := by
  obtain ⟨r, rfl⟩ := h
  rw [List.append_assoc, partsE_append pre _ hp]
  show (match partE y with | some k => some (y.pos, k) | none => partsE r) = _
  rw [hy]
theorem partsE_none {l : List Ex} (hp : ∀ e ∈ l, partE e = none) : partsE l = none := by
  have := partsE_append l [] hp
  rw [List.append_nil] at this
  exact this
/-- Valid's way out, whatever marks there are. -/
theorem valid_leave {w : World} {er : Nat → Addr} {o : Option (Option Int × Nat)} {tmps : Array Value} {ds : List Deferred} {W : World} {v : Value} (ht : tmps[2]? = some (.pointer (some ⟨w.heap.size + 1, 0, none⟩))) (hm : Marks W (w.heap.size + 2) ds) (hr : Blk W (w.heap.size + 1) 39 #[v]) (hR : RetVa w er o (.returned v) W) :
    LeavesInM Fence.wide 4 Tryd.prog Tryd.f9 tmps (RetVa w er o) ds .returning W := by
  refine leaves_marks (base := w.heap.size + 2) (fun W => Blk W (w.heap.size + 1) 39 #[v] ∧ RetVa w er o (.returned v) W) (fun W D hl hD h => ⟨?_, h.2.put (by omega) hD _⟩) (fun W h => ?_) ds W hm ⟨hr, hR⟩
  · exact (putObj_heap_ne (by omega)).trans h.1
  · have r0 := h.1.cell 0
    exact ⟨v, by simp [results, Tryd.results9, go_sem, ht, r0], h.2⟩
end Go.Proofs.YtacmibkcnmaagaaDoor
