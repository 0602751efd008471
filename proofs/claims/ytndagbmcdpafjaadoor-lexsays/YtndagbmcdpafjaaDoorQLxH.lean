/-
  The contract of the iterator that Tokens hands back. Conditions: each theorem's own premises.
-/
import Derived.Test.YtndagbmcdpafjaaDoorQLxF
import Derived.Test.YtndagbmcdpafjaaDoorQLxG
import Derived.Laws.IdiomStrings
namespace Go.Proofs.YtndagbmcdpafjaaDoor
open Go.Shelf Go.RowKit Go.Lib
attribute [local go_sem] Oper.semAt_some

theorem runesFrom_eq (s : ByteArray) : ∀ (b i : Nat) (acc : Array Value), s.size - i ≤ b → (Conv.runesFrom s b i acc).toList = acc.toList ++ (rns (s.data.toList.drop i)).map (fun (r : Nat) => Value.int .i32 (r : Int))
  | 0, i, acc, h => by
    unfold Conv.runesFrom rns
    rw [pcs_end _ i (by simp; omega)]
    simp
  | b + 1, i, acc, h => by
    unfold Conv.runesFrom
    by_cases hi : i < s.size
    · have hp := dec_pos (s.data.toList.drop i)
      rw [if_pos hi]
      have e : rns (s.data.toList.drop i) = (Utf8.decode s i).1 :: rns (s.data.toList.drop (i + (Utf8.decode s i).2)) := by
        unfold rns
        rw [pcs_drop _ i (by simpa using hi), decode_dec]
        rfl
      rw [← decode_dec] at hp
      rw [e]
      have := runesFrom_eq s b (i + (Utf8.decode s i).2) (acc.push (.int .i32 (Int.ofNat (Utf8.decode s i).1))) (by omega)
      refine this.trans ?_
      simp
    · rw [if_neg hi]
      unfold rns
      rw [pcs_end _ i (by simpa using hi)]
      simp
/-- The runes of a text, laid anew. -/
theorem conv_runes (s : ByteArray) (hs : s.size ≤ 4096) (W : World) : ∃ C W2, (convert 9 101 (.string s)).run Tryd.prog W = .ok (.slice (some ⟨W.heap.size, 0, none⟩) (rns s.data.toList).length C) W2 ∧ (rns s.data.toList).length ≤ C ∧ Below W.heap.size W W2 ∧ Rns W2 W.heap.size (rns s.data.toList) ∧ W2.heap.size = W.heap.size + 1 := by
  have hl := runesFrom_eq s s.size 0 #[] (by omega)
  simp only [List.drop_zero, List.nil_append] at hl
  have hz : (Conv.runesFrom s s.size 0 #[]).size = (rns s.data.toList).length := by
    have := congrArg List.length hl
    simpa using this
  have hn := pcs_len s.data.toList
  have hrl : (rns s.data.toList).length ≤ s.size := by unfold rns; simp at hn ⊢; exact hn
  have hr := run_runes_of_string (P := Tryd.prog) W 9 101 21 s Tryd.underlying9 Tryd.underlying101 Tryd.underlying21 (by omega)
  have hc := grownCap_ge W (Conv.runesFrom s s.size 0 #[]).size 0 21
  rw [hz] at hr hc
  refine ⟨_, _, hr, hc, ((Below.refl _ W).drew).alloc (by simp) _, ⟨grownCap W (rns s.data.toList).length 0 21 - (rns s.data.toList).length, ?_⟩, by simp⟩
  have e : (Conv.runesFrom s s.size 0 #[] ++ Array.replicate (grownCap W (rns s.data.toList).length 0 21 - (rns s.data.toList).length) (Value.int .i32 0)) = ((rns s.data.toList).map (fun (r : Nat) => Value.int .i32 (r : Int)) ++ List.replicate (grownCap W (rns s.data.toList).length 0 21 - (rns s.data.toList).length) (Value.int .i32 0)).toArray := by
    apply Array.ext'
    rw [Array.toList_append, hl]
    simp
  rw [e]
  exact heap_alloc_new W.drew _

/-- What comes: a token, or the error and where it lies. -/
inductive Ev where
  | tok (t : Tk)
  | bad (c p b : Nat)
def evV : Ev → Array Value
  | .tok t => #[tkV t, .nilIface]
  | .bad _ _ b => #[tkV ⟨0, 0, [], 0⟩, .iface 85 (.pointer (some ⟨b, 0, none⟩))]
/-- What memory holds for it. -/
def evEl (er : Nat → Addr) : Ev → World → Prop
  | .tok _, _ => True
  | .bad c p b, W => Blk W b 87 #[.int .i64 (p : Int), .iface 186 (.pointer (some (er c)))]
/-- The tokens and the fault of a text. -/
def LexIs (s : ByteArray) (l : List Tk) (f : Option (Nat × Nat)) : Prop := (noBad s ∧ (l, f) = lx (rns s.data.toList) 0) ∨ ∃ p, badAt s p ∧ l = [] ∧ f = some (4, p)
/-- What has come when all has. -/
def Comes (l : List Tk) (f : Option (Nat × Nat)) (ys : List Ev) : Prop :=
  match f with
  | none => ys = l.map .tok
  | some (c, p) => ∃ b, ys = l.map .tok ++ [.bad c p b]
/-- What has come ahead of that. -/
def Came (l : List Tk) (f : Option (Nat × Nat)) (pre : List Ev) : Prop := ∃ ys, Comes l f ys ∧ pre <+: ys

/-- What a round must keep. -/
structure KeepTok (W W' : World) : Prop where
  runes : ∀ (k : Nat) (cs : Array Value), W.heap[k]? = some (Obj.cells cs 21 (0, 0)) → W'.heap[k]? = some (Obj.cells cs 21 (0, 0))
  toks : ∀ (k : Nat) (cs : Array Value), W.heap[k]? = some (Obj.cells cs 37 (0, 0)) → ∃ cs' : Array Value, W'.heap[k]? = some (Obj.cells cs' 37 (0, 0)) ∧ cs'[0]? = cs[0]?
  errs : ∀ er, Lerr W er → Lerr W' er
theorem KeepTok.refl (W : World) : KeepTok W W := ⟨fun _ _ h => h, fun _ cs h => ⟨cs, h, rfl⟩, fun _ h => h⟩
theorem KeepTok.trans {A B C : World} (h : KeepTok A B) (k : KeepTok B C) : KeepTok A C :=
  ⟨fun i cs hi => k.runes i cs (h.runes i cs hi), fun i cs hi => by
    obtain ⟨c1, h1, h2⟩ := h.toks i cs hi
    obtain ⟨c2, h3, h4⟩ := k.toks i c1 h1
    exact ⟨c2, h3, h4.trans h2⟩, fun er he => k.errs er (h.errs er he)⟩
theorem KeepTok.of_below {W W' : World} (h : Below W.heap.size W W') : KeepTok W W' :=
  have keep : ∀ (k : Nat) (o : Obj), W.heap[k]? = some o → W'.heap[k]? = some o := fun k _ hk => (h.block k (Array.getElem?_eq_some_iff.1 hk).1).trans hk
  ⟨fun k _ hk => keep k _ hk, fun k cs hk => ⟨cs, keep k _ hk, rfl⟩, fun _ he => he.below h⟩
/-- A block from B on, of another kind, turns. -/
theorem KeepTok.of_grown {W W' : World} {row : Option Nat} (hg : W.grownBy W' row) (hr : ∀ k, row = some k → (∀ cs, W.heap[k]? ≠ some (Obj.cells cs 21 (0, 0))) ∧ (∀ cs, W.heap[k]? ≠ some (Obj.cells cs 37 (0, 0))) ∧ 1 < k ∧ 4 < k ∧ 5 < k ∧ 23 < k) : KeepTok W W' := by
  have keep : ∀ (k : Nat) (o : Obj), W.heap[k]? = some o → some k ≠ row → W'.heap[k]? = some o := fun k o hk hne => (hg.block k (Array.getElem?_eq_some_iff.1 hk).1 hne).trans hk
  refine ⟨fun k cs hk => keep k _ hk fun e => (hr k e.symm).1 cs hk, fun k cs hk => ⟨cs, keep k _ hk fun e => (hr k e.symm).2.1 cs hk, rfl⟩, fun er he => ?_⟩
  have cell : ∀ g v, W.cell? ⟨g, 0, none⟩ = some v → some g ≠ row → W'.cell? ⟨g, 0, none⟩ = some v := fun g v hv hne =>
    (World.cell?_of_block (a := ⟨g, 0, none⟩) (hg.block g (World.block_lt_of_cell? W _ hv) hne)).trans hv
  have far : ∀ g, (g = 1 ∨ g = 4 ∨ g = 5 ∨ g = 23) → some g ≠ row := fun g hg e => by
    have := (hr g e.symm).2.2
    omega
  obtain ⟨te, pe, hrn⟩ := he.rng
  exact ⟨cell _ _ he.many (far _ (by simp)), cell _ _ he.rune (far _ (by simp)), cell _ _ he.numb (far _ (by simp)), te, pe, cell _ _ hrn (far _ (by simp))⟩
theorem Lerr.lt {w : World} {er : Nat → Addr} (h : Lerr w er) : 1 < w.heap.size ∧ 4 < w.heap.size ∧ 5 < w.heap.size ∧ 23 < w.heap.size := by
  obtain ⟨te, pe, hr⟩ := h.rng
  exact ⟨World.block_lt_of_cell? w _ h.many, World.block_lt_of_cell? w _ h.rune, World.block_lt_of_cell? w _ h.numb, World.block_lt_of_cell? w _ hr⟩
theorem KeepTok.setBox {W : World} {w : World} {er : Nat → Addr} (hw : Lerr w er) {b : Nat} (hb : w.heap.size ≤ b) {t : TypeId} {u : Value} (h : Boxed W b t u) (ht : t ≠ 21) (ht2 : t ≠ 37) (v : Value) : KeepTok W (W.setCell ⟨b, 0, none⟩ v) := by
  have hl := hw.lt
  refine KeepTok.of_grown (grownBy_setCell' W b v) fun k e => ?_
  cases e
  refine ⟨fun cs hc => ?_, fun cs hc => ?_, by omega, by omega, by omega, by omega⟩
  · have := (show W.heap[b]? = _ from h).symm.trans hc
    simp at this
    exact ht this.2
  · have := (show W.heap[b]? = _ from h).symm.trans hc
    simp at this
    exact ht2 this.2
theorem KeepTok.putObj {W : World} {w : World} {er : Nat → Addr} (hw : Lerr w er) {l : Nat} {o : Obj} (o' : Obj) (hl : w.heap.size ≤ l) (h : W.heap[l]? = some o) (hc : o.isCells = false) : KeepTok W (W.putObj l o') := by
  have hlt := hw.lt
  refine KeepTok.of_grown (grownBy_putObj' W l o') fun k e => ?_
  cases e
  exact ⟨fun cs hcs => (by rw [h] at hcs; cases hcs; cases hc), fun cs hcs => (by rw [h] at hcs; cases hcs; cases hc), by omega, by omega, by omega, by omega⟩
end Go.Proofs.YtndagbmcdpafjaaDoor
