/-
  A range over an iterator that tells of each element what lies in memory for it. Conditions: the theorem's own premises.
-/
import Derived.Test.YtndagbmcdpafjaaDoorQTxC
namespace Go.Proofs.YtndagbmcdpafjaaDoor
open Go.Shelf Go.RowKit Go.Lib

/-- The contract of an iterator: at each call of yield, what El says of the element holds of the memory. -/
def SeqEl {α : Type} (F : Fence) (n : Nat) (P : Program) (g : Nat) (lb : Array Value) (encs : α → Array Value) (Kp : World → World → Prop) (El : α → World → Prop) (S Sp : List α → Prop) (N : Nat) (w : World) : Prop :=
  ∀ (l : Nat) (J Jx : List α → World → Prop) (W : World), Below w.heap.size w W → AbidesFrom W.heap.size J → AbidesFrom W.heap.size Jx →
    (∀ pre x W1, J pre W1 → El x W1 → pre.length < N → YieldAt F (n - 1) P l (encs x) W1 fun e W' =>
      (e = .returned (.bool true) ∧ J (pre ++ [x]) W' ∧ Kp W1 W') ∨ (e = .returned (.bool false) ∧ Jx (pre ++ [x]) W')) →
    J [] W →
    CallsIn F n P g (#[.func (.yield l) #[] #[]] ++ lb) W fun e W' => (∃ v, e = .returned v) ∧ ((∃ xs, S xs ∧ J xs W') ∨ (∃ pre, Sp pre ∧ Jx pre W'))

/-- The loop's own two blocks of a range under way: its record and its rounds' deferred calls. -/
structure Run2 (B : Nat) (r : Loop) (W : World) : Prop where
  rec_ : W.heap[B + 1]? = some (.loop r)
  dfr : W.heap[B]? = some (.deferred (some []))
theorem Run2.walks {B B' : Nat} {r : Loop} {X Y : World} {row : Option Nat} (h : Run2 B r X) (hg : X.grownBy Y row) (hr : ∀ k, row = some k → B' ≤ k ∧ ∃ o : Obj, X.heap[k]? = some o ∧ o.isWalk = true) : Run2 B r Y :=
  ⟨(grownBy_keeps hg (fun k e => (hr k e).2) h.rec_ rfl).trans h.rec_, (grownBy_keeps hg (fun k e => (hr k e).2) h.dfr rfl).trans h.dfr⟩
theorem Run2.keeps {B : Nat} {r : Loop} {X Y : World} (h : Run2 B r X) (hk : KeepsFrom B X Y) : Run2 B r Y :=
  ⟨hk.same _ _ (by omega) h.rec_ rfl, hk.same _ _ (Nat.le_refl _) h.dfr rfl⟩
theorem Run2.turn {B : Nat} {r : Loop} {X : World} (h : Run2 B r X) (r' : Loop) : Run2 B r' (X.putObj (B + 1) (.loop r')) :=
  ⟨World.putObj_heap_same (Array.getElem?_eq_some_iff.1 h.rec_).1, (World.putObj_heap_other (by omega)).trans h.dfr⟩

variable {F : Fence} {n : Nat} {P : Program}
theorem range_el {α : Type} {g : Operand} {ps : Array Tmp} {assign body : Code} {Q : Exit → Act → World → Prop} {a : Act} {w : World}
    (hro : F.round = none) (h1 : 1 ≤ n) {gf : Nat} {lb : Array Value} (hg : a.eval g = .func (.func gf) #[] lb) (hFg : F.fn gf) (eg : ∀ args w, (callFunc gf args).run P w = .ok (.enter gf args) w)
    {encs : α → Array Value} {Kp : World → World → Prop} {El : α → World → Prop} {S Sp : List α → Prop} {N : Nat} {w0 : World} (hseq : SeqEl F (n - 1) P gf lb encs Kp El S Sp N w0)
    (hKt : ∀ {A B C : World}, Kp A B → Kp B C → Kp A C) (hKb : ∀ (W : World) (l : Nat) (o o' : Obj), w.heap.size ≤ l → W.heap[l]? = some o → o.isCells = false → o.isWalk = false → Kp W (W.putObj l o')) (hb0 : Below w0.heap.size w0 w) (hps : ∀ x, (encs x).size = ps.size)
    (I : List α → World → Prop) (Ix : Code → List α → World → Prop) (hI : OwnFrom w.heap.size I) (hIx : ∀ c, OwnFrom w.heap.size (Ix c)) (h0 : I [] w) (Ax : α → Act → World → Prop) (hAx : ∀ x a', OwnFrom w.heap.size (fun (_ : Unit) W => Ax x a' W))
    (hassign : ∀ (l : Nat) (pre : List α) (x : α) (W : World) (K : Act → World → Prop), I pre W → El x W → (∀ a' W', KeepsFrom w.heap.size W W' → Kp W W' → I pre W' → Ax x a' W' → K a' W') →
      assign.wpIn (F.inRound l) (n - 1 - 1) P (Exit.then K (fun _ _ _ => False)) { tmps := (ps.zip (encs x)).foldl (fun t (p, v) => t.setIfInBounds p v) a.tmps, defers := [] } W)
    (hbody : ∀ (l : Nat) (pre : List α) (x : α) (a' : Act) (W : World), w.heap.size ≤ l → (∃ r, W.heap[l]? = some (.loop r)) → I pre W → Ax x a' W → pre.length < N → body.wpIn (F.inRound l) (n - 1 - 1) P (ownPostG w.heap.size Kp I Ix (pre ++ [x]) W) a' W)
    (hdone : ∀ (D : Nat) (xs : List α) (W : World), w.heap.size ≤ D → S xs → I xs W → W.heap[D]? = some (.deferred (some [])) → Q .normal { a with defers := { target := .collected D, args := #[] } :: a.defers } W)
    (hstop : ∀ (D : Nat) (c : Code) (pre : List α) (W : World), w.heap.size ≤ D → Sp pre → Ix c pre W → W.heap[D]? = some (.deferred (some [])) → c.wpIn F n P Q { a with defers := { target := .collected D, args := #[] } :: a.defers } W) :
    (Code.rangeFunc g ps assign body).wpIn F n P Q a w := by
  refine wpIn_rangeFunc fun fn hfn => ?_
  rw [hro]
  obtain ⟨R, hR⟩ : ∃ R : LoopState → Option Code → Loop, R = fun st pe => { state := st, pending := pe, fn, tmps := a.tmps, params := ps, assign, body, defers := w.heap.size } := ⟨_, rfl⟩
  obtain ⟨W1, hW1⟩ : ∃ W1, W1 = (w.alloc (.deferred (some []))).alloc (.loop (R .ready none)) := ⟨_, rfl⟩
  have hz1 : W1.heap.size = w.heap.size + 2 := by rw [hW1]; simp
  have hr1 : Run2 w.heap.size (R .ready none) W1 := by
    rw [hW1]
    refine ⟨?_, (Below.heap_alloc _ _ _ (by simp)).trans (World.alloc_heap_new w _)⟩
    have := World.alloc_heap_new (w.alloc (.deferred (some []))) (.loop (R .ready none))
    rwa [World.size_alloc] at this
  have hB1 : Below w.heap.size w W1 := by rw [hW1]; exact ((Below.refl _ w).alloc (Nat.le_refl _) _).alloc (by simp) _
  have hI1 : I [] W1 := by rw [hW1]; exact hI.alloc _ (hI.alloc _ h0)
  have hen := run_enterLoop_outer (P := P) (w := w) fn a.tmps ps assign body
  refine ⟨w.heap.size + 1, [{ target := .collected w.heap.size, args := #[] }], W1, { target := .fn (.func gf) lb, args := #[.func (.yield (w.heap.size + 1)) #[] #[]] }, W1, gf, #[.func (.yield (w.heap.size + 1)) #[] #[]] ++ lb, W1, ?_, ?_, ?_, ?_, fun _ => h1, ?_⟩
  · rw [hW1, hR]; exact hen
  · simp only [resolve, hg]; simp [go_sem]
  · intro f' hf'; simp [Target.leads] at hf'; subst hf'; exact hFg
  · simp [invoke, go_sem, eg]
  clear hen
  have wlk : ∀ {A : World} {row : Option Nat}, (∀ k, row = some k → W1.heap.size ≤ k ∧ ∃ o : Obj, A.heap[k]? = some o ∧ o.isWalk = true) → (∀ k, row = some k → w.heap.size ≤ k ∧ ∃ o : Obj, A.heap[k]? = some o ∧ o.isCells = false) := fun hr k e => by
    obtain ⟨hk, o, ho, hw⟩ := hr k e
    exact ⟨by omega, o, ho, Obj.not_cells_of_walk hw⟩
  have turn : ∀ (X : World) (r r' : Loop), Run2 w.heap.size r X → Kp X (X.putObj (w.heap.size + 1) (.loop r')) := fun X r r' h => hKb _ _ _ _ (by omega) h.rec_ rfl rfl
  have hcall := hseq (w.heap.size + 1)
    (fun pre W => I pre W ∧ Run2 w.heap.size (R .ready none) W)
    (fun pre W => ∃ c, Ix c pre W ∧ Run2 w.heap.size (R .done (some c)) W)
    W1 (hb0.trans (hB1.mono hb0.size))
    (fun s A B row hs hg' hr => ⟨hI s A B row hs.1 hg' (wlk hr), hs.2.walks hg' hr⟩)
    (fun s A B row hs hg' hr => by
      obtain ⟨c, hc, hrun⟩ := hs
      exact ⟨c, hIx c s A B row hc hg' (wlk hr), hrun.walks hg' hr⟩)
    (fun pre x W hJ hel hlen => by
      obtain ⟨hi, hrun⟩ := hJ
      have hy := run_yield (P := P) (args := encs x) hrun.rec_ (by rw [hR]; exact hps x)
      rw [hR] at hy
      refine ⟨fn, _, assign, body, hy, roundIn_of_wpIn hfn (hassign _ pre x W _ hi hel fun a' Wa hka hkp hia hax => ?_)⟩
      have hruna := hrun.keeps hka
      refine ⟨_, run_beginRound hruna.rec_ (by rw [hR]), ?_⟩
      have hrunb := hruna.turn { R .ready none with state := .busy }
      have hib := hI.putObj (.loop { R .ready none with state := .busy }) hia (l := w.heap.size + 1) (by omega) hruna.rec_ rfl
      have haxb := (hAx x a').putObj (s := ()) (.loop { R .ready none with state := .busy }) hax (l := w.heap.size + 1) (by omega) hruna.rec_ rfl
      refine wpIn_mono (hbody _ pre x a' _ (by omega) ⟨_, hrunb.rec_⟩ hib haxb hlen) ?_
      have fin : ∀ (j : Option Code) (W3 : World), KeepsFrom w.heap.size (Wa.putObj (w.heap.size + 1) (.loop { R .ready none with state := .busy })) W3 →
          (Instr.endRound (w.heap.size + 1) j).run P W3 = .ok (.bool j.isNone) (W3.putObj (w.heap.size + 1) (.loop (R (if j.isNone then .ready else .done) j))) ∧ Run2 w.heap.size { R .ready none with state := .busy } W3 := fun j W3 hk3 => by
        have hr3 := hrunb.keeps hk3
        have := run_endRound (P := P) j hr3.rec_
        rw [hR] at this ⊢
        exact ⟨this, by rw [hR] at hr3; exact hr3⟩
      have out : ∀ (c : Code) (W3 : World), KeepsFrom w.heap.size (Wa.putObj (w.heap.size + 1) (.loop { R .ready none with state := .busy })) W3 → Ix c (pre ++ [x]) W3 →
          ∃ c', Ix c' (pre ++ [x]) (W3.putObj (w.heap.size + 1) (.loop (R .done (some c)))) ∧ Run2 w.heap.size (R .done (some c')) (W3.putObj (w.heap.size + 1) (.loop (R .done (some c)))) := fun c W3 hk3 hx3 => by
        have hr3 := (fin (some c) W3 hk3).2
        exact ⟨c, (hIx c).putObj _ hx3 (by omega) hr3.rec_ rfl, hr3.turn _⟩
      rintro e a3 W3 hp
      cases e with
      | normal =>
        obtain ⟨hk3, hkp3, hi3⟩ := hp
        obtain ⟨hrun3, hr3⟩ := fin none W3 hk3
        exact ⟨_, _, hrun3, .inl ⟨rfl, ⟨hI.putObj _ hi3 (by omega) hr3.rec_ rfl, hr3.turn _⟩, hKt hkp (hKt (hKt (turn _ _ _ hruna) hkp3) (turn _ _ _ hr3))⟩⟩
      | ret => exact ⟨_, _, (fin (some .ret) W3 hp.1).1, .inr ⟨rfl, out .ret W3 hp.1 hp.2⟩⟩
      | exit id => exact ⟨_, _, (fin (some (.exit id)) W3 hp.1).1, .inr ⟨rfl, out (.exit id) W3 hp.1 hp.2⟩⟩
      | goto t => exact ⟨_, _, (fin (some (.goto t)) W3 hp.1).1, .inr ⟨rfl, out (.goto t) W3 hp.1 hp.2⟩⟩
      | panic ch => exact hp.elim
      | outgrown => exact hp.elim)
    ⟨hI1, hr1⟩
  refine hcall.mono ?_
  have last : ∀ (W2 : World) (st : LoopState) (j : Option Code), st ≠ .busy → Run2 w.heap.size (R st j) W2 →
      (Instr.endLoop (w.heap.size + 1)).run P W2 = .ok j (W2.putObj (w.heap.size + 1) (.loop { R st j with state := .exhausted })) ∧ (W2.putObj (w.heap.size + 1) (.loop { R st j with state := .exhausted })).heap[w.heap.size]? = some (.deferred (some [])) := fun W2 st j hst hr => by
    have := run_endLoop (P := P) hr.rec_ (by rw [hR]; exact hst)
    exact ⟨by rw [hR] at this ⊢; exact this, (hr.turn _).dfr⟩
  rintro e W2 ⟨⟨v, rfl⟩, (⟨xs, hS, hi, hr⟩ | ⟨pre, hSp, c, hx, hr⟩)⟩
  · obtain ⟨k1, k2⟩ := last W2 .ready none (by simp) hr
    exact ⟨none, _, k1, hdone _ xs _ (Nat.le_refl _) hS (hI.putObj _ hi (by omega) hr.rec_ rfl) k2⟩
  · obtain ⟨k1, k2⟩ := last W2 .done (some c) (by simp) hr
    exact ⟨some c, _, k1, hstop _ c pre _ (Nat.le_refl _) hSp ((hIx c).putObj _ hx (by omega) hr.rec_ rfl) k2⟩
end Go.Proofs.YtndagbmcdpafjaaDoor
