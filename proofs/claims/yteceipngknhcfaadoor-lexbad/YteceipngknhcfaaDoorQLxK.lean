/-
  The walk of All. Conditions: each theorem's own premises.
-/
import Derived.Test.YteceipngknhcfaaDoorQLxJ
namespace Go.Proofs.YteceipngknhcfaaDoor
open Go.Shelf Go.RowKit Go.Lib
attribute [local go_sem] Oper.semAt_some

theorem wpListIn_append_eq {F : Fence} {n : Nat} {P : Program} {w : World} {ops : Array Oper} {rest : List Oper} {o : Oper} {a : Act} {Q : Exit → Act → World → Prop} (hgd : o.guard = none) (s x : Operand) (t : TypeId)
    (ho : o.op = .call { callee := .builtin .append, args := #[s, x], argTypes := #[t, t] }) (v u v' : Value) (w' : World) (hs : a.eval s = v) (hx : a.eval x = u) (hrun : (Builtin.append_ #[t, t] o.type #[v, u]).run P w = .ok v' w')
    (h : wpListIn F n P ops Q rest (a.put o.dst v') w') : wpListIn F n P ops Q (o :: rest) a w := by
  refine wpListIn_plain hgd fun K hK' => ?_
  unfold Oper.wpIn
  refine ⟨?_, ?_⟩
  · simp [Oper.about, ho, resolve, Target.leads, Sem.run_pure]
  · rw [Oper.semAt_plain F _ _ (by rw [ho]; intro c hc'; cases hc')]
    simp [execOp, ho, resolve, invoke, builtin, hs, hx, hrun, Result.andThen]
    exact hK' _ _ h

/-- What All answers. -/
def RetAll (w : World) (er : Nat → Addr) (l : List Tk) (f : Option (Nat × Nat)) (e : Ending) (w' : World) : Prop :=
  Below w.heap.size w w' ∧ match f with
    | none => ∃ v, e = .returned (.tuple #[v, .nilIface]) ∧ Ow LT w' w.heap.size v l
    | some (c, p) => ∃ b, e = .returned (.tuple #[.slice none 0 0, .iface 77 (.pointer (some ⟨b, 0, none⟩))]) ∧ Blk w' b 82 #[.int .i64 (p : Int), .iface 125 (.pointer (some (er c)))]
/-- Where its loop stands. -/
structure AlC (w : World) (n : Nat) (L : List Tk) (W : World) : Prop where
  row : ∃ v, Boxed W (n + 1 + 1) 23 v ∧ Ow LT W n v L ∧ (L = [] → v = .slice none 0 0) ∧ ∃ A k c, v = .slice A k c
  r0 : Boxed W n 23 (.slice none 0 0)
  r1 : Boxed W (n + 1) 25 .nilIface
  bel : Below n w W
def AlI (w : World) (n : Nat) (pre : List Ev) (W : World) : Prop := ∃ L : List Tk, pre = L.map .tok ∧ AlC w n L W
def AlX (w : World) (n : Nat) (er : Nat → Addr) (x : Code) (pre : List Ev) (W : World) : Prop :=
  x = .ret ∧ ∃ (L : List Tk) (c p b : Nat), pre = L.map .tok ++ [.bad c p b] ∧ Boxed W n 23 (.slice none 0 0) ∧ Boxed W (n + 1) 25 (.iface 77 (.pointer (some ⟨b, 0, none⟩))) ∧ Blk W b 82 #[.int .i64 (p : Int), .iface 125 (.pointer (some (er c)))] ∧ Below n w W
theorem AlC.grown {w W W' : World} {n : Nat} {L : List Tk} {row : Option Nat} (h : AlC w n L W) (hg : W.grownBy W' row) (hr : ∀ r, row = some r → n + 3 ≤ r ∧ ∃ o : Obj, W.heap[r]? = some o ∧ o.isCells = false) : AlC w n L W' := by
  obtain ⟨v, h1, h2, h3, h4⟩ := h.row
  have hlt := h1.lt
  have hkeep : ∀ g, v.ownBlock = some g → W'.heap[g]? = W.heap[g]? := fun g hgv => by
    refine hg.block g (h2.block g hgv).2 fun e => ?_
    obtain ⟨o, ho, hc⟩ := (hr _ e.symm).2
    rcases h2.form with ⟨rfl, _⟩ | ⟨g2, cap, cs, rfl, _, hb, _⟩
    · cases hgv
    · cases hgv
      rw [show W.heap[g2]? = _ from hb] at ho
      cases ho
      cases hc
  exact ⟨⟨v, h1.kept hg (fun e => by have := (hr _ e.symm).1; omega), h2.keep hkeep, h3, h4⟩, h.r0.kept hg (fun e => by have := (hr _ e.symm).1; omega), h.r1.kept hg (fun e => by have := (hr _ e.symm).1; omega), h.bel.grown hg (by omega) (fun r e => by have := (hr r e).1; omega)⟩
/-- The error beside a token. -/
def errV : Ev → Value
  | .tok _ => .nilIface
  | .bad _ _ b => .iface 77 (.pointer (some ⟨b, 0, none⟩))
def tokT : Ev → Tk
  | .tok t => t
  | .bad _ _ _ => ⟨0, 0, [], 0⟩
theorem evV_eq (x : Ev) : evV x = #[tkV (tokT x), errV x] := by cases x <;> rfl
/-- What a round's own variable is. -/
def AlAx (n : Nat) (er : Nat → Addr) (s : ByteArray) (x : Ev) (a : Act) (W : World) : Prop :=
  evEl er x W ∧ ∃ b : Nat, n + 3 ≤ b ∧ Blk W b 37 (LT.enc (tokT x)).toArray ∧
    a = { tmps := #[.string s, undef, .pointer (some ⟨n, 0, none⟩), .pointer (some ⟨n + 1, 0, none⟩), .pointer (some ⟨n + 1 + 1, 0, none⟩), .pointer (some ⟨b, 0, none⟩), errV x, .string s, .func (.func 42) #[] #[.pointer (some ⟨n + 1 + 1 + 1, 0, none⟩)], tkV (tokT x), errV x, undef, undef, undef, undef, undef, undef, undef, undef], defers := [] }
theorem evEl_own (n : Nat) (er : Nat → Addr) (x : Ev) : OwnFrom n (fun (_ : Unit) W => evEl er x W) := fun _ W W' row hs hg hr => by
  cases x with
  | tok t => trivial
  | bad c p b =>
    refine Blk.grown (show Blk W b _ _ from hs) hg fun e => ?_
    obtain ⟨o, ho, hc⟩ := (hr b e.symm).2
    rw [show W.heap[b]? = _ from hs] at ho
    cases ho
    cases hc
theorem blk_own {W W' : World} {row : Option Nat} {b n : Nat} {t : TypeId} {cs : Array Value} (h : Blk W b t cs) (hg : W.grownBy W' row) (hr : ∀ r, row = some r → n ≤ r ∧ ∃ o : Obj, W.heap[r]? = some o ∧ o.isCells = false) : Blk W' b t cs := by
  refine h.grown hg fun e => ?_
  obtain ⟨o, ho, hc⟩ := (hr b e.symm).2
  rw [show W.heap[b]? = _ from h] at ho
  cases ho
  cases hc
theorem comes_none {l : List Tk} {f : Option (Nat × Nat)} {L : List Tk} (h : Comes l f (L.map .tok)) : f = none ∧ L = l := by
  have inj : ∀ a b : Tk, Ev.tok a = Ev.tok b → a = b := fun a b e => by cases e; rfl
  cases f with
  | none => exact ⟨rfl, List.map_inj_right inj |>.1 h⟩
  | some cp =>
    obtain ⟨b, hb⟩ := h
    have : Ev.bad cp.1 cp.2 b ∈ L.map Ev.tok := by rw [hb]; simp
    obtain ⟨t, _, ht⟩ := List.mem_map.1 this
    cases ht
theorem came_bad {l : List Tk} {f : Option (Nat × Nat)} {L : List Tk} {c p b : Nat} (h : Came l f (L.map .tok ++ [.bad c p b])) : f = some (c, p) := by
  obtain ⟨ys, hy, hp⟩ := h
  have hm : Ev.bad c p b ∈ ys := hp.subset (by simp)
  cases f with
  | none =>
    have : ys = l.map .tok := hy
    rw [this] at hm
    obtain ⟨t, _, ht⟩ := List.mem_map.1 hm
    cases ht
  | some cp =>
    obtain ⟨b', hb⟩ := hy
    rw [hb] at hm
    rcases List.mem_append.1 hm with hm | hm
    · obtain ⟨t, _, ht⟩ := List.mem_map.1 hm
      cases ht
    · simp at hm
      rw [hm.1, hm.2.1]

set_option maxRecDepth 100000 in
set_option maxHeartbeats 4000000 in
theorem all_any (s : ByteArray) (hs : s.size ≤ 4096) (er : Nat → Addr) (l : List Tk) (f : Option (Nat × Nat)) (hL : LexIs s l f) (hll : l.length ≤ 5000) (w : World) (hE : Lerr w er) :
    Calls Tryd.prog 11 #[.string s] w (RetAll w er l f) := by
  refine (callsIn_wide (n := 3)).1 ?_
  refine callsIn_of_wp_marks Tryd.func11 rfl trivial ?_ rfl
  simp only [Tryd.ntmps11, List.size_toArray, List.length_cons, List.length_nil, Nat.reduceAdd, Nat.reduceSub, Array.replicate_succ, Array.replicate_zero, List.push_toArray, List.append_toArray, List.nil_append, List.cons_append]
  refine wpIn_wide.2 ?_
  go_wp2_with fail
  refine (tokens_mk s _).mono ?_
  rintro e w5 ⟨rfl, rfl⟩
  go_wp2_with fail
  have hB4 : Below w.heap.size w ((((w.alloc (.cells #[.slice none 0 0] 23)).alloc (.cells #[.nilIface] 25)).alloc (.cells #[.slice none 0 0] 23)).alloc (.cells #[.string s] 9)) := ((((Below.refl _ w).alloc (Nat.le_refl _) _).alloc (by simp) _).alloc (by simp; omega) _).alloc (by simp; omega) _
  have hz4 : ((((w.alloc (.cells #[.slice none 0 0] 23)).alloc (.cells #[.nilIface] 25)).alloc (.cells #[.slice none 0 0] 23)).alloc (.cells #[.string s] 9)).heap.size = w.heap.size + 4 := by simp
  have hb1 := Boxed.new w 23 (.slice none 0 0)
  have hb2 := Boxed.new (w.alloc (.cells #[.slice none 0 0] 23)) 25 .nilIface
  have hb3 := Boxed.new ((w.alloc (.cells #[.slice none 0 0] 23)).alloc (.cells #[.nilIface] 25)) 23 (.slice none 0 0)
  have hb4 := Boxed.new (((w.alloc (.cells #[.slice none 0 0] 23)).alloc (.cells #[.nilIface] 25)).alloc (.cells #[.slice none 0 0] 23)) 9 (.string s)
  simp only [World.size_alloc] at hb2 hb3 hb4
  have hC0 : AlC w w.heap.size [] ((((w.alloc (.cells #[.slice none 0 0] 23)).alloc (.cells #[.nilIface] 25)).alloc (.cells #[.slice none 0 0] 23)).alloc (.cells #[.string s] 9)) :=
    ⟨⟨_, hb3.alloc _, Ow.nil _ _ _, fun _ => rfl, _, _, _, rfl⟩, ((hb1.alloc _).alloc _).alloc _, (hb2.alloc _).alloc _, hB4⟩
  have HST := Lib.hid (tokens_el 2 (by omega) (w.heap.size + 1 + 1 + 1) s hs er l f hL _ (by rw [hz4]; omega) hb4.cell (hE.below hB4))
  have HC0 := Lib.hid hC0
  have HZ := Lib.hid hz4
  have HE := Lib.hid hE
  clear hb1 hb2 hb3 hb4 hC0 hz4 hB4 hE
  refine (wpIn_wide (n := 3)).1 ?_
  refine range_el rfl (by omega) (gf := 42) (lb := #[.pointer (some ⟨w.heap.size + 1 + 1 + 1, 0, none⟩)]) rfl trivial (enters_of Tryd.func42 (by kernel_rfl) rfl) HST.out KeepTok.trans
    (fun W l o o' hl ho hc _ => KeepTok.putObj HE.out o' (by rw [HZ.out] at hl; omega) ho hc) (Below.refl _ _) (fun x => by rw [evV_eq]; rfl)
    (fun pre W => AlI w w.heap.size pre W)
    (fun c pre W => AlX w w.heap.size er c pre W)
    (fun s A B row hs hg hr => by
      obtain ⟨L, h1, h2⟩ := hs
      exact ⟨L, h1, h2.grown hg fun r e => by have := (hr r e).1; rw [HZ.out] at this; exact ⟨by omega, (hr r e).2⟩⟩)
    (fun c s A B row hs hg hr => by
      have hr2 : ∀ r, row = some r → w.heap.size + 4 ≤ r ∧ ∃ o : Obj, A.heap[r]? = some o ∧ o.isCells = false := fun r e => by have := hr r e; rw [HZ.out] at this; exact this
      obtain ⟨h1, L, c, p, b, h2, h3, h4, h6, h7⟩ := hs
      exact ⟨h1, L, c, p, b, h2, h3.kept hg (fun e => by have := (hr2 _ e.symm).1; omega), h4.kept hg (fun e => by have := (hr2 _ e.symm).1; omega), blk_own h6 hg hr2, h7.grown hg (by have := h3.lt; omega) fun r e => by have := (hr2 r e).1; omega⟩)
    ⟨[], rfl, HC0.out⟩
    (fun x a W => AlAx w.heap.size er s x a W)
    (fun x a' _ A B row hs hg hr => by
      obtain ⟨h1, b, h2, h3, h4⟩ := hs
      exact ⟨evEl_own _ er x () A B row h1 hg hr, b, h2, blk_own h3 hg hr, h4⟩)
    ?assign ?body ?done ?stop
  case assign =>
    rintro lp pre x W K ⟨L, hL1, hC⟩ hel hK
    have hsz : w.heap.size + 3 ≤ W.heap.size := by
      obtain ⟨v, h1, _⟩ := hC.row
      have := h1.lt
      omega
    have HIn : ∀ o, AlI w w.heap.size pre (W.alloc o) := fun o => ⟨L, hL1, hC.grown (World.grownBy_alloc W o none) (fun r e => by cases e)⟩
    have HH := Lib.hid HIn
    have HEl : ∀ o, evEl er x (W.alloc o) := fun o => by
      cases x with
      | tok t => trivial
      | bad c p b => exact (show Blk W b _ _ from hel).alloc o
    have HL := Lib.hid HEl
    have HX : ∀ t, x = .tok t ∨ True := fun _ => .inr trivial
    clear HIn HEl hC hL1 HX
    rw [evV_eq]
    cases x with
    | tok t =>
      obtain ⟨kind, pos, text, n⟩ := t
      dsimp only [tokT, errV, tkV]
      gi_wp2
      exact hK _ _ (KeepsFrom.of_grownBy (World.grownBy_alloc W _ none) (fun r e => by cases e)) (KeepTok.of_below ((Below.refl _ _).alloc (Nat.le_refl _) _)) (HH.out _) ⟨HL.out _, _, hsz, heap_alloc_new W _, rfl⟩
    | bad c p b =>
      dsimp only [tokT, errV, tkV]
      gi_wp2
      exact hK _ _ (KeepsFrom.of_grownBy (World.grownBy_alloc W _ none) (fun r e => by cases e)) (KeepTok.of_below ((Below.refl _ _).alloc (Nat.le_refl _) _)) (HH.out _) ⟨HL.out _, _, hsz, heap_alloc_new W _, rfl⟩
  case body =>
    rintro lp pre x a' W hlp hrec ⟨L, hL1, hC⟩ ⟨hel, b, hb, hbk, rfl⟩ hlen
    have hll2 : L.length ≤ l.length := by rw [hL1, List.length_map] at hlen; omega
    cases x with
    | tok t =>
      obtain ⟨v, h1, h2, h3, A, k, c, rfl⟩ := hC.row
      obtain ⟨v', w', hrun, k1, ⟨A', k', c', rfl⟩, k3, k4⟩ := append_tok t h2 h3 (by omega) (by have := hC.bel.size; omega)
      obtain ⟨kind, pos, text, n⟩ := t
      dsimp only [tokT, errV, tkV]
      obtain ⟨⟨c0, c1, c2, c3⟩, f0, f1, f2, f3⟩ := blk4 (show Blk W b _ #[.int .i64 (kind : Int), .int .i64 (pos : Int), .string ⟨text.toArray⟩, .int .i64 (n : Int)] from hbk)
      have hl := h1.cell
      have hlf := h1.frozen
      have HC := Lib.hid hC
      clear hC
      have hg2 : ∀ r, some r = (Value.slice A k c).ownBlock → w.heap.size ≤ r ∧ r < W.heap.size ∧ r ≠ w.heap.size ∧ r ≠ w.heap.size + 1 ∧ r ≠ w.heap.size + 1 + 1 := fun r hr => by
        have hr' := hr.symm
        have hb2 := h2.block r hr'
        have hty : ∃ cs, W.heap[r]? = some (Obj.cells cs 37 (0, 0)) := by
          rcases h2.form with ⟨e, _⟩ | ⟨g2, cap, cs, e, _, hbk2, _⟩
          · rw [e] at hr'; cases hr'
          · rw [e] at hr'; cases hr'; exact ⟨cs, hbk2⟩
        obtain ⟨cs, hcs⟩ := hty
        have ne : ∀ (q : Nat) (t : TypeId) (u : Value), Boxed W q t u → t ≠ 37 → r ≠ q := fun q t u hq ht e => by
          subst e
          have := (show W.heap[r]? = _ from hq).symm.trans hcs
          simp at this
          exact ht this.2
        exact ⟨hb2.1, hb2.2, ne _ _ _ HC.out.r0 (by decide), ne _ _ _ HC.out.r1 (by decide), ne _ _ _ h1 (by decide)⟩
      have hb1' : Boxed w' (w.heap.size + 1 + 1) 23 (.slice A k c) := h1.kept k3 (fun e => (hg2 _ e).2.2.2.2 rfl)
      have hb0' : Boxed w' w.heap.size 23 (.slice none 0 0) := HC.out.r0.kept k3 (fun e => (hg2 _ e).2.2.1 rfl)
      have hb2' : Boxed w' (w.heap.size + 1) 25 .nilIface := HC.out.r1.kept k3 (fun e => (hg2 _ e).2.2.2.1 rfl)
      have hlf' := hb1'.frozen
      have hl' := hb1'.cell
      have hBel' : Below w.heap.size w w' := HC.out.bel.grown k3 (HC.out.bel.size) (fun r e => (hg2 r e.symm).1)
      have hK4 : KeepTok W (w'.setCell ⟨w.heap.size + 1 + 1, 0, none⟩ (.slice A' k' c')) := k4.trans (KeepTok.setBox HE.out (by omega) hb1' (by decide) (by decide) _)
      have hKF : KeepsFrom ((((w.alloc (.cells #[.slice none 0 0] 23)).alloc (.cells #[.nilIface] 25)).alloc (.cells #[.slice none 0 0] 23)).alloc (.cells #[.string s] 9)).heap.size W (w'.setCell ⟨w.heap.size + 1 + 1, 0, none⟩ (.slice A' k' c')) := by
        refine KeepsFrom.trans ⟨k3.size, fun i o hB hi ho => ?_⟩ ((KeepsOthers.setCell _ _ _).from _)
        refine (k3.block i (Array.getElem?_eq_some_iff.1 hi).1 (fun e => ?_)).trans hi
        rcases h2.form with ⟨e2, _⟩ | ⟨g2, cap, cs, e2, _, hbk2, _⟩
        · rw [e2] at e; cases e
        · rw [e2] at e; cases e
          have := (show W.heap[_]? = _ from hbk2).symm.trans hi
          cases this
          cases ho
      have hAl : AlI w w.heap.size (pre ++ [.tok ⟨kind, pos, text, n⟩]) (w'.setCell ⟨w.heap.size + 1 + 1, 0, none⟩ (.slice A' k' c')) := by
        refine ⟨L ++ [⟨kind, pos, text, n⟩], by rw [hL1, List.map_append]; rfl, ⟨_, hb1'.set _, ?_, fun e => ?_, _, _, _, rfl⟩, hb0'.kept (grownBy_setCell' _ _ _) (by simp; omega), hb2'.kept (grownBy_setCell' _ _ _) (by simp), hBel'.setCell (p := ⟨w.heap.size + 1 + 1, 0, none⟩) (by show w.heap.size ≤ w.heap.size + 1 + 1; omega) _⟩
        · refine k1.keep fun g hgv => Below.heap_setCell _ _ _ g fun e => ?_
          rcases k1.form with ⟨e2, _⟩ | ⟨g2, cap, cs, e2, _, hbk2, _⟩
          · rw [e2] at hgv; cases hgv
          · rw [e2] at hgv; cases hgv
            have := (show w'.heap[w.heap.size + 1 + 1]? = _ from hb1').symm.trans ((congrArg (fun z => w'.heap[z]?) e.symm).trans hbk2)
            simp at this
            exact absurd this.2 (by decide)
        · simp at e
      have HAl := Lib.hid hAl
      have HKF := Lib.hid hKF
      have HK4 := Lib.hid hK4
      clear hAl hKF hK4 hBel' hb0' hb1' hb2' hg2 k1 k3 k4 h1 h2 h3
      gi_wp2_with (first | (gi_at_builtin; refine wpListIn_append_eq rfl _ _ 23 rfl _ _ _ w' rfl rfl (hrun _) ?_) | gi_in)
      exact ⟨HKF.out, HK4.out, HAl.out⟩
    | bad c p b2 =>
      dsimp only [tokT, errV, tkV]
      have hA0 := hC.r0
      have hA1 := hC.r1
      have hc0 := hA0.cell
      have hf0 := hA0.frozen
      have hc1 := hA1.cell
      have hf1 := hA1.frozen
      have hne : b2 ≠ w.heap.size ∧ b2 ≠ w.heap.size + 1 := by
        have ne : ∀ (q : Nat) (t : TypeId) (u : Value), Boxed W q t u → b2 ≠ q := fun q t u hq e => by
          subst e
          have := (show W.heap[b2]? = _ from hq).symm.trans hel
          simp at this
        exact ⟨ne _ _ _ hA0, ne _ _ _ hA1⟩
      have hb0' := hA0.set (.slice none 0 0)
      have hb1' : Boxed (W.setCell ⟨w.heap.size, 0, none⟩ (.slice none 0 0)) (w.heap.size + 1) 25 .nilIface := hA1.kept (grownBy_setCell' _ _ _) (by simp)
      have hc1' := hb1'.cell
      have hf1' := hb1'.frozen
      have hX : AlX w w.heap.size er .ret (pre ++ [.bad c p b2]) ((W.setCell ⟨w.heap.size, 0, none⟩ (.slice none 0 0)).setCell ⟨w.heap.size + 1, 0, none⟩ (.iface 77 (.pointer (some ⟨b2, 0, none⟩)))) :=
        ⟨rfl, L, c, p, b2, by rw [hL1], hb0'.kept (grownBy_setCell' _ _ _) (by simp), hb1'.set _, ((show Blk W b2 _ _ from hel).far hne.1 _).far hne.2 _, ((hC.bel.setCell (p := ⟨w.heap.size, 0, none⟩) (Nat.le_refl _) _).setCell (p := ⟨w.heap.size + 1, 0, none⟩) (by show w.heap.size ≤ w.heap.size + 1; omega) _)⟩
      have HX := Lib.hid hX
      clear hX hC hA0 hA1 hb0' hb1' hel hbk
      gi_wp2
      exact ⟨((KeepsOthers.setCell _ _ _).trans (KeepsOthers.setCell _ _ _)).from _, HX.out⟩
  case done =>
    rintro D ys W hD hS ⟨L, rfl, hC⟩ hK
    obtain ⟨rfl, rfl⟩ := comes_none hS
    rw [HZ.out] at hD
    obtain ⟨v, h1, h2, -, A, k, c, rfl⟩ := hC.row
    have hl := h1.cell
    have hA0 := hC.r0
    have hf0 := hA0.frozen
    have hc0 := hA0.cell
    have hb0 := hA0.set (.slice A k c)
    have hb1 : Boxed (W.setCell ⟨w.heap.size, 0, none⟩ (.slice A k c)) (w.heap.size + 1) 25 .nilIface := hC.r1.kept (grownBy_setCell' _ _ _) (by simp)
    have hf1 := hb1.frozen
    have hc1 := hb1.cell
    have hB := (hC.bel.setCell (p := ⟨w.heap.size, 0, none⟩) (Nat.le_refl _) (.slice A k c)).setCell (p := ⟨w.heap.size + 1, 0, none⟩) (by show w.heap.size ≤ w.heap.size + 1; omega) .nilIface
    have hOw : Ow LT ((W.setCell ⟨w.heap.size, 0, none⟩ (.slice A k c)).setCell ⟨w.heap.size + 1, 0, none⟩ .nilIface) w.heap.size (.slice A k c) L := h2.keep fun g hgv => by
      have hne : ∀ (q : Nat) (u : Value) (t : TypeId), Boxed W q t u → g ≠ q := fun q u t hq e => by
        subst e
        rcases h2.form with ⟨e2, _⟩ | ⟨g2, cap, cs, e2, _, hbk2, h8, h9, h10, _⟩
        · rw [e2] at hgv; cases hgv
        · rw [e2] at hgv; cases hgv
          have := (show W.heap[_]? = _ from hq).symm.trans hbk2
          simp at this
          have h11 := congrArg Array.size this.1
          rw [h10] at h11
          have : LT.n = 4 := rfl
          simp [this] at h11
          omega
      exact (Below.heap_setCell _ _ _ g (hne _ _ _ hC.r1)).trans (Below.heap_setCell _ _ _ g (hne _ _ _ hC.r0))
    have hK' := (KeepsOthers.setCell (W.setCell ⟨w.heap.size, 0, none⟩ (.slice A k c)) ⟨w.heap.size + 1, 0, none⟩ .nilIface).same D _ ((KeepsOthers.setCell W ⟨w.heap.size, 0, none⟩ (.slice A k c)).same D _ hK rfl) rfl
    have hB0 := hb0.kept (grownBy_setCell' (W.setCell ⟨w.heap.size, 0, none⟩ (.slice A k c)) (w.heap.size + 1) .nilIface) (by simp)
    have hB1 := hb1.set .nilIface
    obtain ⟨WF, hWF⟩ : ∃ WF, WF = (W.setCell ⟨w.heap.size, 0, none⟩ (.slice A k c)).setCell ⟨w.heap.size + 1, 0, none⟩ .nilIface := ⟨_, rfl⟩
    rw [← hWF] at hB hOw hK' hB0 hB1
    have hq0 := (hB0.kept (grownBy_putObj' WF D (.deferred none)) (fun e => by cases e; omega)).cell
    have hq1 := (hB1.kept (grownBy_putObj' WF D (.deferred none)) (fun e => by cases e; omega)).cell
    have HR : Hid (RetAll w er L none (.returned (.tuple #[.slice A k c, .nilIface])) (WF.putObj D (.deferred none))) := Lib.hid ⟨hB.trans (belowK_b (w := w) (Nat.le_refl _) _ D _ _ (by omega) hK' rfl rfl), _, rfl, hOw.keep fun g hgv => World.putObj_heap_other (fun e => by
      subst e
      rcases hOw.form with ⟨e2, _⟩ | ⟨g2, cap, cs, e2, _, hbk2, _⟩
      · rw [e2] at hgv; cases hgv
      · rw [e2] at hgv; cases hgv
        have := (show WF.heap[_]? = _ from hbk2).symm.trans hK'
        cases this)⟩
    have HK5 := Lib.hid hK'
    have HQ0 := Lib.hid hq0
    have HQ1 := Lib.hid hq1
    clear hC h1 h2 hb0 hb1 hB hOw hK' hB0 hB1 hq0 hq1 hK hS hL
    gi_wp2
    go_wp2
    rw [← hWF]
    have hq0 := HQ0.out
    have hq1 := HQ1.out
    refine ⟨by simp, .inl ⟨_, _, rfl, run_takeDeferred HK5.out, ?_⟩⟩
    exact ⟨_, by simp [results, Tryd.results11, go_sem, hq0, hq1], HR.out⟩
  case stop =>
    rintro D c pre W hD hpre ⟨rfl, L, c, p, b, rfl, h3, h4, h6, h7⟩ hK
    obtain rfl := came_bad hpre
    rw [HZ.out] at hD
    have hq0 := (h3.kept (grownBy_putObj' W D (.deferred none)) (fun e => by cases e; omega)).cell
    have hq1 := (h4.kept (grownBy_putObj' W D (.deferred none)) (fun e => by cases e; omega)).cell
    have HR : Hid (RetAll w er l (some (c, p)) (.returned (.tuple #[.slice none 0 0, .iface 77 (.pointer (some ⟨b, 0, none⟩))])) (W.putObj D (.deferred none))) := Lib.hid ⟨h7.trans (belowK_b (w := w) (Nat.le_refl _) _ D _ _ (by omega) hK rfl rfl), b, rfl, (World.putObj_heap_other (fun e => by
      subst e
      have := (show W.heap[_]? = _ from h6).symm.trans hK
      cases this)).trans h6⟩
    clear h3 h4 h6 h7 hpre hL
    gi_wp2
    go_wp2
    refine ⟨by simp, .inl ⟨_, _, rfl, run_takeDeferred hK, ?_⟩⟩
    exact ⟨_, by simp [results, Tryd.results11, go_sem, hq0, hq1], HR.out⟩
end Go.Proofs.YteceipngknhcfaaDoor
