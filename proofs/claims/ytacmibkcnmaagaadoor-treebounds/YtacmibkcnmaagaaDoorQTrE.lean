/-
  A range over an iterator that tells of each element what lies in memory for it, and may itself go through another one; the walk of tree's walk. Conditions: each theorem's own premises.
-/
import Derived.Test.YtacmibkcnmaagaaDoorQTrD
import Derived.Lib.OthersKept
import Derived.RangeFuncNested
import Derived.RangeFuncBound
import Derived.RangeFuncCalls
import Derived.RangeFuncLeaves
import Derived.RangeFuncBox
import Derived.Shelf.Abstract
import Derived.Shelf.RegionOpen
import Derived.OwnWalkIn
import Derived.TacticsInMore
import Derived.LoopNIn
import Derived.LoopIn
namespace Go.Proofs.YtacmibkcnmaagaaDoor
open Go.Shelf Go.RowKit Go.Lib
attribute [local go_sem] Oper.semAt_some

/-- The contract of an iterator: at each call of yield, what El says of the element holds of the memory. -/
def SeqOw {α : Type} (F : Fence) (n : Nat) (P : Program) (g : Nat) (lb : Array Value) (encs : α → Array Value) (Kp : World → World → Prop) (El : α → World → Prop) (S Sp : List α → Prop) (N : Nat) (w : World) : Prop :=
  ∀ (l : Nat) (J Jx : List α → World → Prop) (W : World), Below w.heap.size w W → OwnFrom W.heap.size J → OwnFrom W.heap.size Jx →
    (∀ pre x W1, J pre W1 → El x W1 → pre.length < N → YieldAt F (n - 1) P l (encs x) W1 fun e W' =>
      (e = .returned (.bool true) ∧ J (pre ++ [x]) W' ∧ Kp W1 W' ∧ KeepsFrom W.heap.size W1 W') ∨ (e = .returned (.bool false) ∧ Jx (pre ++ [x]) W' ∧ KeepsFrom W.heap.size W1 W')) →
    J [] W →
    CallsIn F n P g (#[.func (.yield l) #[] #[]] ++ lb) W fun e W' => (∃ v, e = .returned v) ∧ ((∃ xs, S xs ∧ J xs W') ∨ (∃ pre, Sp pre ∧ Jx pre W'))

/-- The loop's own two blocks of a range under way: its record and its rounds' deferred calls. -/
structure Run2 (B : Nat) (r : Loop) (W : World) : Prop where
  rec_ : W.heap[B + 1]? = some (.loop r)
  dfr : W.heap[B]? = some (.deferred (some []))
theorem Run2.fresh {B B' : Nat} {r : Loop} {X Y : World} {row : Option Nat} (h : Run2 B r X) (hg : X.grownBy Y row) (hB : B + 2 ≤ B') (hr : ∀ k, row = some k → B' ≤ k) : Run2 B r Y :=
  ⟨(hg.block _ (Array.getElem?_eq_some_iff.1 h.rec_).1 (fun e => by have := hr _ e.symm; omega)).trans h.rec_, (hg.block _ (Array.getElem?_eq_some_iff.1 h.dfr).1 (fun e => by have := hr _ e.symm; omega)).trans h.dfr⟩
theorem Run2.keeps {B : Nat} {r : Loop} {X Y : World} (h : Run2 B r X) (hk : KeepsFrom B X Y) : Run2 B r Y :=
  ⟨hk.same _ _ (by omega) h.rec_ rfl, hk.same _ _ (Nat.le_refl _) h.dfr rfl⟩
theorem Run2.turn {B : Nat} {r : Loop} {X : World} (h : Run2 B r X) (r' : Loop) : Run2 B r' (X.putObj (B + 1) (.loop r')) :=
  ⟨World.putObj_heap_same (Array.getElem?_eq_some_iff.1 h.rec_).1, (World.putObj_heap_other (by omega)).trans h.dfr⟩

theorem kf_mono {B B' : Nat} {X Y : World} (h : KeepsFrom B X Y) (hB : B ≤ B') : KeepsFrom B' X Y := ⟨h.size, fun k o hk h1 h2 => h.same k o (Nat.le_trans hB hk) h1 h2⟩
theorem kf_put {B l : Nat} (X : World) (o : Obj) (h : l < B) : KeepsFrom B X (X.putObj l o) := KeepsFrom.of_grownBy (grownBy_putObj' X l o) (fun j e => by cases e; exact h)
theorem kf_below {B : Nat} {X Y : World} (h : Below X.heap.size X Y) : KeepsFrom B X Y := ⟨h.size, fun k _ _ h1 _ => (h.block k (Array.getElem?_eq_some_iff.1 h1).1).trans h1⟩

variable {F : Fence} {n : Nat} {P : Program}
theorem range_ow {α : Type} {g : Operand} {ps : Array Tmp} {assign body : Code} {Q : Exit → Act → World → Prop} {a : Act} {w : World}
    (hro : F.round = none) (h1 : 1 ≤ n) {gf : Nat} {lb : Array Value} (hg : a.eval g = .func (.func gf) #[] lb) (hFg : F.fn gf) (eg : ∀ args w, (callFunc gf args).run P w = .ok (.enter gf args) w)
    {encs : α → Array Value} {Kp : World → World → Prop} {El : α → World → Prop} {S Sp : List α → Prop} {N : Nat} {w0 : World} (hseq : SeqOw F (n - 1) P gf lb encs Kp El S Sp N w0)
    (hKt : ∀ {A B C : World}, Kp A B → Kp B C → Kp A C) (hKb : ∀ (W : World) (l : Nat) (o o' : Obj), w.heap.size ≤ l → W.heap[l]? = some o → o.isCells = false → o.isWalk = false → Kp W (W.putObj l o')) (hb0 : Below w0.heap.size w0 w) (hps : ∀ x, (encs x).size = ps.size)
    (I : List α → World → Prop) (Ix : Code → List α → World → Prop) (hI : OwnFrom w.heap.size I) (hIx : ∀ c, OwnFrom w.heap.size (Ix c)) (h0 : I [] w) (Ax : α → Act → World → Prop) (hAx : ∀ x a', OwnFrom w.heap.size (fun (_ : Unit) W => Ax x a' W))
    (hassign : ∀ (l : Nat) (pre : List α) (x : α) (W : World) (K : Act → World → Prop), I pre W → El x W → (∀ a' W', KeepsFrom w.heap.size W W' → Kp W W' → I pre W' → Ax x a' W' → K a' W') →
      assign.wpIn (F.inRound l) (n - 1 - 1) P (Exit.then K (fun _ _ _ => False)) { tmps := (ps.zip (encs x)).foldl (fun t (p, v) => t.setIfInBounds p v) a.tmps, defers := [] } W)
    (hbody : ∀ (l : Nat) (pre : List α) (x : α) (a' : Act) (W : World), w.heap.size ≤ l → (∃ r, W.heap[l]? = some (.loop r)) → I pre W → Ax x a' W → pre.length < N → body.wpIn (F.inRound l) (n - 1 - 1) P (ownPostG w.heap.size Kp I Ix (pre ++ [x]) W) a' W)
    (hdone : ∀ (D : Nat) (xs : List α) (W : World), w.heap.size ≤ D → S xs → I xs W → W.heap[D]? = some (.deferred (some [])) → Q .normal { a with defers := { target := .collected D, args := #[] } :: a.defers } W)
    (hstop : ∀ (D : Nat) (c : Code) (pre : List α) (W : World), w.heap.size ≤ D → Sp pre → Ix c pre W → W.heap[D]? = some (.deferred (some [])) → c.wpIn F n P Q { a with defers := { target := .collected D, args := #[] } :: a.defers } W) :
    (Code.rangeFunc g ps assign body).wpIn F n P Q a w := by
  refine wpIn_rangeFunc fun fn hfn => ?_
  rw [hro]
  obtain ⟨R, hR⟩ : ∃ R : LoopState → Option Code → Loop, R = fun st pe => { state := st, pending := pe, fn, tmps := a.tmps, params := ps, assign, body, defers := w.heap.size } := ⟨_, rfl⟩
  obtain ⟨W1, hW1⟩ : ∃ W1, W1 = (w.alloc (.deferred (some []))).alloc (.loop (R .ready none)) := ⟨_, rfl⟩
  have hz1 : W1.heap.size = w.heap.size + 2 := by rw [hW1]; simp
  have hr1 : Run2 w.heap.size (R .ready none) W1 := by
    rw [hW1]
    refine ⟨?_, (Below.heap_alloc _ _ _ (by simp)).trans (World.alloc_heap_new w _)⟩
    have := World.alloc_heap_new (w.alloc (.deferred (some []))) (.loop (R .ready none))
    rwa [World.size_alloc] at this
  have hB1 : Below w.heap.size w W1 := by rw [hW1]; exact ((Below.refl _ w).alloc (Nat.le_refl _) _).alloc (by simp) _
  have hI1 : I [] W1 := by rw [hW1]; exact hI.alloc _ (hI.alloc _ h0)
  have hen := run_enterLoop_outer (P := P) (w := w) fn a.tmps ps assign body
  refine ⟨w.heap.size + 1, [{ target := .collected w.heap.size, args := #[] }], W1, { target := .fn (.func gf) lb, args := #[.func (.yield (w.heap.size + 1)) #[] #[]] }, W1, gf, #[.func (.yield (w.heap.size + 1)) #[] #[]] ++ lb, W1, ?_, ?_, ?_, ?_, fun _ => h1, ?_⟩
  · rw [hW1, hR]; exact hen
  · simp only [resolve, hg]; simp [go_sem]
  · intro f' hf'; simp [Target.leads] at hf'; subst hf'; exact hFg
  · simp [invoke, go_sem, eg]
  clear hen
  have wlk : ∀ {A : World} {row : Option Nat}, (∀ k, row = some k → W1.heap.size ≤ k ∧ ∃ o : Obj, A.heap[k]? = some o ∧ o.isCells = false) → (∀ k, row = some k → w.heap.size ≤ k ∧ ∃ o : Obj, A.heap[k]? = some o ∧ o.isCells = false) := fun hr k e => ⟨by have := (hr k e).1; omega, (hr k e).2⟩
  have turn : ∀ (X : World) (r r' : Loop), Run2 w.heap.size r X → Kp X (X.putObj (w.heap.size + 1) (.loop r')) := fun X r r' h => hKb _ _ _ _ (by omega) h.rec_ rfl rfl
  have hcall := hseq (w.heap.size + 1)
    (fun pre W => I pre W ∧ Run2 w.heap.size (R .ready none) W)
    (fun pre W => ∃ c, Ix c pre W ∧ Run2 w.heap.size (R .done (some c)) W)
    W1 (hb0.trans (hB1.mono hb0.size))
    (fun s A B row hs hg' hr => ⟨hI s A B row hs.1 hg' (wlk hr), hs.2.fresh hg' (by omega) fun k e => (hr k e).1⟩)
    (fun s A B row hs hg' hr => by
      obtain ⟨c, hc, hrun⟩ := hs
      exact ⟨c, hIx c s A B row hc hg' (wlk hr), hrun.fresh hg' (by omega) fun k e => (hr k e).1⟩)
    (fun pre x W hJ hel hlen => by
      obtain ⟨hi, hrun⟩ := hJ
      have hy := run_yield (P := P) (args := encs x) hrun.rec_ (by rw [hR]; exact hps x)
      rw [hR] at hy
      refine ⟨fn, _, assign, body, hy, roundIn_of_wpIn hfn (hassign _ pre x W _ hi hel fun a' Wa hka hkp hia hax => ?_)⟩
      have hruna := hrun.keeps hka
      refine ⟨_, run_beginRound hruna.rec_ (by rw [hR]), ?_⟩
      have hrunb := hruna.turn { R .ready none with state := .busy }
      have hib := hI.putObj (.loop { R .ready none with state := .busy }) hia (l := w.heap.size + 1) (by omega) hruna.rec_ rfl
      have haxb := (hAx x a').putObj (s := ()) (.loop { R .ready none with state := .busy }) hax (l := w.heap.size + 1) (by omega) hruna.rec_ rfl
      refine wpIn_mono (hbody _ pre x a' _ (by omega) ⟨_, hrunb.rec_⟩ hib haxb hlen) ?_
      have fin : ∀ (j : Option Code) (W3 : World), KeepsFrom w.heap.size (Wa.putObj (w.heap.size + 1) (.loop { R .ready none with state := .busy })) W3 →
          (Instr.endRound (w.heap.size + 1) j).run P W3 = .ok (.bool j.isNone) (W3.putObj (w.heap.size + 1) (.loop (R (if j.isNone then .ready else .done) j))) ∧ Run2 w.heap.size { R .ready none with state := .busy } W3 := fun j W3 hk3 => by
        have hr3 := hrunb.keeps hk3
        have := run_endRound (P := P) j hr3.rec_
        rw [hR] at this ⊢
        exact ⟨this, by rw [hR] at hr3; exact hr3⟩
      have out : ∀ (c : Code) (W3 : World), KeepsFrom w.heap.size (Wa.putObj (w.heap.size + 1) (.loop { R .ready none with state := .busy })) W3 → Ix c (pre ++ [x]) W3 →
          ∃ c', Ix c' (pre ++ [x]) (W3.putObj (w.heap.size + 1) (.loop (R .done (some c)))) ∧ Run2 w.heap.size (R .done (some c')) (W3.putObj (w.heap.size + 1) (.loop (R .done (some c)))) := fun c W3 hk3 hx3 => by
        have hr3 := (fin (some c) W3 hk3).2
        exact ⟨c, (hIx c).putObj _ hx3 (by omega) hr3.rec_ rfl, hr3.turn _⟩
      have kf : ∀ (o : Obj) (W3 : World), KeepsFrom w.heap.size (Wa.putObj (w.heap.size + 1) (.loop { R .ready none with state := .busy })) W3 → KeepsFrom W1.heap.size W (W3.putObj (w.heap.size + 1) o) := fun o W3 hk3 =>
        (kf_mono hka (by omega)).trans ((kf_put Wa _ (by omega)).trans ((kf_mono hk3 (by omega)).trans (kf_put W3 o (by omega))))
      rintro e a3 W3 hp
      cases e with
      | normal =>
        obtain ⟨hk3, hkp3, hi3⟩ := hp
        obtain ⟨hrun3, hr3⟩ := fin none W3 hk3
        exact ⟨_, _, hrun3, .inl ⟨rfl, ⟨hI.putObj _ hi3 (by omega) hr3.rec_ rfl, hr3.turn _⟩, hKt hkp (hKt (hKt (turn _ _ _ hruna) hkp3) (turn _ _ _ hr3)), kf _ W3 hk3⟩⟩
      | ret => exact ⟨_, _, (fin (some .ret) W3 hp.1).1, .inr ⟨rfl, out .ret W3 hp.1 hp.2, kf _ W3 hp.1⟩⟩
      | exit id => exact ⟨_, _, (fin (some (.exit id)) W3 hp.1).1, .inr ⟨rfl, out (.exit id) W3 hp.1 hp.2, kf _ W3 hp.1⟩⟩
      | goto t => exact ⟨_, _, (fin (some (.goto t)) W3 hp.1).1, .inr ⟨rfl, out (.goto t) W3 hp.1 hp.2, kf _ W3 hp.1⟩⟩
      | panic ch => exact hp.elim
      | outgrown => exact hp.elim)
    ⟨hI1, hr1⟩
  refine hcall.mono ?_
  have last : ∀ (W2 : World) (st : LoopState) (j : Option Code), st ≠ .busy → Run2 w.heap.size (R st j) W2 →
      (Instr.endLoop (w.heap.size + 1)).run P W2 = .ok j (W2.putObj (w.heap.size + 1) (.loop { R st j with state := .exhausted })) ∧ (W2.putObj (w.heap.size + 1) (.loop { R st j with state := .exhausted })).heap[w.heap.size]? = some (.deferred (some [])) := fun W2 st j hst hr => by
    have := run_endLoop (P := P) hr.rec_ (by rw [hR]; exact hst)
    exact ⟨by rw [hR] at this ⊢; exact this, (hr.turn _).dfr⟩
  rintro e W2 ⟨⟨v, rfl⟩, (⟨xs, hS, hi, hr⟩ | ⟨pre, hSp, c, hx, hr⟩)⟩
  · obtain ⟨k1, k2⟩ := last W2 .ready none (by simp) hr
    exact ⟨none, _, k1, hdone _ xs _ (Nat.le_refl _) hS (hI.putObj _ hi (by omega) hr.rec_ rfl) k2⟩
  · obtain ⟨k1, k2⟩ := last W2 .done (some c) (by simp) hr
    exact ⟨some c, _, k1, hstop _ c pre _ (Nat.le_refl _) hSp ((hIx c).putObj _ hx (by omega) hr.rec_ rfl) k2⟩

/-- Rows of cells stay, but for those of a kind. -/
structure KpC (C : Nat → Prop) (W W' : World) : Prop where
  size : W.heap.size ≤ W'.heap.size
  same : ∀ b o, ¬ C b → W.heap[b]? = some o → o.isCells = true → W'.heap[b]? = some o
theorem KpC.refl (C : Nat → Prop) (W : World) : KpC C W W := ⟨Nat.le_refl _, fun _ _ _ h _ => h⟩
theorem KpC.trans {C : Nat → Prop} {A B D : World} (h : KpC C A B) (k : KpC C B D) : KpC C A D := ⟨Nat.le_trans h.size k.size, fun b o hc hb ho => k.same b o hc (h.same b o hc hb ho) ho⟩
theorem KpC.of_below {C : Nat → Prop} {W W' : World} (h : Below W.heap.size W W') : KpC C W W' := ⟨h.size, fun b _ _ hb _ => (h.block b (Array.getElem?_eq_some_iff.1 hb).1).trans hb⟩
theorem KpC.putObj {C : Nat → Prop} (W : World) (l : Nat) (o o' : Obj) (hl : W.heap[l]? = some o) (ho : o.isCells = false) : KpC C W (W.putObj l o') :=
  ⟨by simp, fun b o2 _ hb hc => by
    by_cases e : b = l
    · subst e
      rw [hl] at hb
      cases hb
      rw [ho] at hc
      cases hc
    · exact (World.putObj_heap_other e).trans hb⟩
theorem KpC.setCell {C : Nat → Prop} (W : World) (a : Addr) (v : Value) (hC : C a.block) : KpC C W (W.setCell a v) :=
  ⟨by simp, fun b o hb hx _ => (Below.heap_setCell W a v b (fun e => hb (by rw [e]; exact hC))).trans hx⟩
theorem isCells_of_cell {W : World} {p : Addr} {v : Value} (h : W.cell? p = some v) : ∃ o, W.heap[p.block]? = some o ∧ o.isCells = true := by
  unfold World.cell? at h
  cases ho : W.heap[p.block]? with
  | none => simp [ho] at h
  | some o => exact ⟨o, rfl, by cases o <;> simp_all [Obj.isCells]⟩
theorem KpC.cell {C : Nat → Prop} {W W' : World} (h : KpC C W W') (p : Addr) (v : Value) (hp : ¬ C p.block) (hc : W.cell? p = some v) : W'.cell? p = some v := by
  obtain ⟨o, ho, hi⟩ := isCells_of_cell hc
  exact (World.cell?_of_block ((h.same _ o hp ho hi).trans ho.symm)).trans hc
theorem KpC.blk {C : Nat → Prop} {W W' : World} (h : KpC C W W') {b : Nat} {t : TypeId} {cs : Array Value} (hp : ¬ C b) (hc : Blk W b t cs) : Blk W' b t cs := h.same b _ hp hc rfl
theorem Xs.kp {K C : Nat → Prop} {W W' : World} {A : Option Addr} {c : Nat} {l : List Ex} (h : Xs W K A c l) (hk : KpC C W W') (hC : ∀ b, K b → ¬ C b) : Xs W' K A c l := h.keepV (fun _ h => h) fun p v hp hv => hk.cell p v (hC _ hp) hv
theorem Ex.Lies.kp {K C : Nat → Prop} {W W' : World} {x : Ex} (h : x.Lies W K) (hk : KpC C W W') (hC : ∀ b, K b → ¬ C b) : x.Lies W' K := Ex.Lies.keepV (fun _ h => h) (fun p v hp hv => hk.cell p v (hC _ hp) hv) x h
theorem ow_below {β : Type} {B : Nat} {J : β → World → Prop} (h : OwnFrom B J) {x : β} {W W' : World} (hJ : J x W) (hb : Below W.heap.size W W') : J x W' :=
  h x W W' none hJ ⟨hb.os, hb.tape, hb.output, hb.size, fun k hk _ => hb.block k hk⟩ (fun r e => by cases e)
theorem ow_later {β : Type} {B B' : Nat} {J : β → World → Prop} (h : OwnFrom B J) (hB : B ≤ B') : OwnFrom B' J := fun s W W' row hs hg hr => h s W W' row hs hg fun r e => ⟨Nat.le_trans hB (hr r e).1, (hr r e).2⟩
theorem yield_mono {F : Fence} {m : Nat} {P : Program} {l : Nat} {args : Array Value} {W : World} {R R' : Ending → World → Prop} (h : YieldAt F m P l args W R) (hR : ∀ e W', R e W' → R' e W') : YieldAt F m P l args W R' := by
  obtain ⟨fn, tmps, assign, body, h1, h2⟩ := h
  exact ⟨fn, tmps, assign, body, h1, h2.mono hR⟩
theorem yield_any {m m' P l args W R} (h : YieldAt Fence.wide m P l args W R) : YieldAt Fence.wide m' P l args W R := by
  obtain ⟨fn, tmps, assign, body, h1, h2, h3⟩ := h
  exact ⟨fn, tmps, assign, body, h1, h2, fun c cs _ => h3 c cs (room_wide _)⟩

/-- What a call of yield leaves. -/
def RetYd (J Jx : List Ex → World → Prop) (C : Nat → Prop) (W : World) (ps : List Ex) (e : Ending) (W' : World) : Prop :=
  (e = .returned (.bool true) ∧ J ps W' ∧ KpC C W W') ∨ (e = .returned (.bool false) ∧ Jx ps W')
/-- What walk leaves. -/
def RetWk (J Jx : List Ex → World → Prop) (C : Nat → Prop) (W : World) (pre ps : List Ex) (e : Ending) (W' : World) : Prop :=
  (e = .returned (.bool true) ∧ J (pre ++ ps) W' ∧ KpC C W W') ∨ (e = .returned (.bool false) ∧ ∃ p, p <+: ps ∧ Jx (pre ++ p) W')

set_option maxRecDepth 100000 in
set_option maxHeartbeats 4000000 in
theorem wlk_any (lp n0 N : Nat) (PS : List Ex) (K C : Nat → Prop) (J Jx : List Ex → World → Prop) (hd : OwnFrom n0 J) (hKC : ∀ b, K b → ¬ C b) (hC : ∀ b, C b → b < n0)
    (hY : ∀ pre x W1, J pre W1 → x.Lies W1 K → x ∈ PS → n0 ≤ W1.heap.size → pre.length < N → YieldAt Fence.wide 0 Tryd.prog lp #[x.val] W1 (RetYd J Jx C W1 (pre ++ [x]))) :
    ∀ (d : Nat) (A : Option Addr) (c : Nat) (l pre : List Ex) (W : World), depL l ≤ d → l.length ≤ 100000 → slimL 100000 l = true → (∀ y ∈ partsL l, y ∈ PS) → Xs W K A c l → n0 ≤ W.heap.size → J pre W → pre.length + cntL l ≤ N →
    Calls Tryd.prog 85 #[.slice A l.length c, .func (.yield lp) #[] #[]] W (RetWk J Jx C W pre (partsL l))
  | d, A, c, l, pre, W, hdp, hs1, hs2, hps0, hx, hn, hJ, hN => by
    have hs2 := slimL_iff.1 hs2
    have IH : ∀ (x : Ex) (pre : List Ex) (W' : World), x ∈ l → x.Lies W' K → n0 ≤ W'.heap.size → J pre W' → pre.length + cntL x.l ≤ N → Calls Tryd.prog 85 #[.slice x.A x.l.length x.c, .func (.yield lp) #[] #[]] W' (RetWk J Jx C W' pre (partsL x.l)) := fun x pre W' hm hl hn' hJ' hN' => by
      have hdx := dep_mem hm
      have hde := Ex.dep_eq x
      match d, hdp with
      | 0, hdp => omega
      | d + 1, hdp =>
        obtain ⟨h1, h2⟩ := Ex.slim_in (hs2 x hm)
        exact wlk_any lp n0 N PS K C J Jx hd hKC hC hY d x.A x.c x.l pre W' (by omega) h1 (slimL_iff.2 h2) (fun y hy => hps0 y (parts_sub hm hy)) hl.xs hn' hJ' hN'
    have IH := Lib.hid IH
    have HX := Lib.hid hx
    have HPS := Lib.hid (fun (x : Ex) (h : x ∈ l) => hps0 x (mem_partsL.2 ⟨x, h, .inl rfl⟩))
    have HJ := Lib.hid hJ
    have HY := Lib.hid hY
    have HD := Lib.hid hd
    have HKC := Lib.hid hKC
    have HC := Lib.hid hC
    obtain ⟨len, hlen⟩ : ∃ len, len = l.length := ⟨_, rfl⟩
    rw [← hlen] at hs1 ⊢
    have HL := Lib.hid hlen
    clear hx hJ hs2 hdp hlen hY hd hKC hC hps0
    refine (callsIn_wide (n := 1)).1 ?_
    refine callsIn_of_wp Tryd.func85 rfl trivial ?_ rfl
    simp only [Tryd.ntmps85, List.size_toArray, List.length_cons, List.length_nil, Nat.reduceAdd, Nat.reduceSub, Array.replicate_succ, Array.replicate_zero, List.push_toArray, List.append_toArray, List.nil_append, List.cons_append]
    gi_wp2_with fail
    gi_loopw [9] (fun i wr => ∃ k : Nat, k ≤ len ∧ i = .int .i64 (k : Int) ∧ J (pre ++ partsL (l.take k)) wr ∧ KpC C W wr) (fun i _ => len - (RowKit.intOf i).toNat)
    case atStart => exact ⟨0, Nat.zero_le _, rfl, by simpa [partsL] using HJ.out, KpC.refl _ _⟩
    case round =>
      obtain ⟨k, hk, rfl, hJ, hkp⟩ := hrel
      have hLl := HL.out
      by_cases hp : k < len
      · obtain ⟨b, o, rfl, hKb⟩ := HX.out.hd.at_ (by omega)
        have hx2 := HX.out.kp hkp HKC.out
        have hp' : k < l.length := by omega
        obtain ⟨c0, c1, c2, c3, c4⟩ := hx2.five hp'
        have hlx := hx2.all _ (List.getElem_mem hp')
        have hps : partsL (l.take (k + 1)) = partsL (l.take k) ++ (l[k] :: partsL l[k].l) := by
          rw [take_succ hp', partsL_append]
          simp [partsL, Ex.parts_eq]
        have hcn : cntL (l.take k) + l[k].cnt ≤ cntL l := by
          have h1 := cntL_append (l.take (k + 1)) (l.drop (k + 1))
          rw [List.take_append_drop] at h1
          have h2 := cntL_take l k hp'
          omega
        have hpl := partsL_length (l.take k)
        have hce := Ex.cnt_eq l[k]
        obtain ⟨W1, hW1⟩ : ∃ W1, W1 = wr.alloc (.cells #[.int .i64 l[k].op, .int .i64 l[k].pos, .int .i64 l[k].n, .string ⟨l[k].name.toArray⟩, .slice l[k].A l[k].l.length l[k].c] 34) := ⟨_, rfl⟩
        have hB1 : Below wr.heap.size wr W1 := by rw [hW1]; exact (Below.refl _ _).alloc (Nat.le_refl _) _
        have hbx : Blk W1 wr.heap.size 34 #[.int .i64 l[k].op, .int .i64 l[k].pos, .int .i64 l[k].n, .string ⟨l[k].name.toArray⟩, .slice l[k].A l[k].l.length l[k].c] := by rw [hW1]; exact heap_alloc_new wr _
        have hJ1 := ow_below HD.out hJ hB1
        have hlx1 := hlx.kp (KpC.of_below (C := C) hB1) HKC.out
        have hn1 : n0 ≤ W1.heap.size := by have := hB1.size; have := hkp.size; omega
        obtain ⟨fn, tmps, assign, body, hy, hRo⟩ := HY.out _ _ W1 hJ1 hlx1 (HPS.out _ (List.getElem_mem hp')) hn1 (by rw [List.length_append]; omega)
        have hm := List.getElem_mem hp'
        have hnC : ¬ C wr.heap.size := fun h => by have := HC.out _ h; have := hkp.size; omega
        obtain ⟨x, hx⟩ : ∃ x, x = l[k] := ⟨_, rfl⟩
        rw [← hx] at c0 c1 c2 c3 c4 hW1 hbx hy hRo hps hcn hce hlx1 hm
        have HIw := Lib.hid (fun (W' : World) (h2 : x.Lies W' K) (h3 : n0 ≤ W'.heap.size) (h4 : J ((pre ++ partsL (l.take k)) ++ [x]) W') => IH.out x ((pre ++ partsL (l.take k)) ++ [x]) W' hm h2 h3 h4 (by simp only [List.length_append, List.length_singleton]; omega))
        have HPs := Lib.hid hps
        have HBx := Lib.hid hbx
        have HLx := Lib.hid hlx1
        have HKp := Lib.hid (hkp.trans (KpC.of_below (C := C) hB1))
        have HRo := Lib.hid hRo
        dsimp only [Ex.val] at hy
        have HPl := Lib.hid hpl
        clear hx hp' hLl hJ hkp hx2 hlx hB1 hbx hJ1 hlx1 hps hm hRo hpl
        rw [hW1] at hy
        gi_wp2
        rw [← hW1]
        clear hW1
        refine HRo.out.mono ?_
        rintro e W2 (⟨rfl, hJ2, hk2⟩ | ⟨rfl, hJx2⟩)
        · have hb2 := hk2.blk hnC HBx.out
          have h4 : W2.cell? ⟨wr.heap.size, 4, none⟩ = some (.slice x.A x.l.length x.c) := hb2.cell 4
          have HIw2 := Lib.hid (HIw.out W2 (HLx.out.kp hk2 HKC.out) (Nat.le_trans hn1 hk2.size) hJ2)
          have HKp2 := Lib.hid (HKp.out.trans hk2)
          clear hJ2 hk2 hb2 HIw HLx HBx HKp
          gi_wp2_with fail
          refine ⟨trivial, callsIn_wide.2 (HIw2.out.mono ?_)⟩
          rintro e W3 (⟨rfl, hJ3, hk3⟩ | ⟨rfl, p, hpre, hJx3⟩)
          · have HJ3 : Hid (J (pre ++ partsL (l.take (k + 1))) W3) := Lib.hid (by
              have := hJ3
              rw [List.append_assoc, List.singleton_append, List.append_assoc] at this
              rw [HPs.out]
              exact this)
            have HKp3 := Lib.hid (HKp2.out.trans hk3)
            clear hJ3 hk3
            gi_wp2
            go_roundw
            case rel => exact ⟨k + 1, by omega, by go_num, HJ3.out, HKp3.out⟩
            case measure => simp [RowKit.intOf]; omega
          · have HX3 : Hid (∃ p, p <+: partsL l ∧ Jx (pre ++ p) W3) := Lib.hid ⟨partsL (l.take k) ++ x :: p, by
              have h1 : partsL l = partsL (l.take (k + 1)) ++ partsL (l.drop (k + 1)) := by rw [← partsL_append, List.take_append_drop]
              rw [h1, HPs.out]
              refine List.IsPrefix.trans ?_ (List.prefix_append _ _)
              exact (List.prefix_append_right_inj _).2 ((List.prefix_cons_inj _).2 hpre), by
              have := hJx3
              rw [List.append_assoc, List.singleton_append, List.append_assoc] at this
              exact this⟩
            clear hJx3 hpre
            gi_wp2
            refine bodyPost_ret (v := .bool false) (by simp [results, Tryd.results85, go_sem]) rfl ?_
            exact .inr ⟨rfl, HX3.out⟩
        · have HX3 : Hid (∃ p, p <+: partsL l ∧ Jx (pre ++ p) W2) := Lib.hid ⟨partsL (l.take k) ++ [x], by
            have h1 : partsL l = partsL (l.take (k + 1)) ++ partsL (l.drop (k + 1)) := by rw [← partsL_append, List.take_append_drop]
            rw [h1, HPs.out]
            refine List.IsPrefix.trans ?_ (List.prefix_append _ _)
            exact (List.prefix_append_right_inj _).2 ((List.prefix_cons_inj _).2 (List.nil_prefix)), by
            have := hJx2
            rw [List.append_assoc] at this
            exact this⟩
          clear hJx2
          gi_wp2
          refine ⟨trivial, ?_⟩
          gi_wp2
          refine bodyPost_ret (v := .bool false) (by simp [results, Tryd.results85, go_sem]) rfl ?_
          exact .inr ⟨rfl, HX3.out⟩
      · have HT := Lib.hid (take_all l k (by omega))
        have HJ3 : Hid (J (pre ++ partsL l) wr) := Lib.hid (by rw [HT.out] at hJ; exact hJ)
        have HKp := Lib.hid hkp
        clear hJ hkp
        gi_wp2
        refine bodyPost_ret (v := .bool true) (by simp [results, Tryd.results85, go_sem]) rfl ?_
        exact .inl ⟨rfl, HJ3.out, HKp.out⟩
end Go.Proofs.YtacmibkcnmaagaaDoor
