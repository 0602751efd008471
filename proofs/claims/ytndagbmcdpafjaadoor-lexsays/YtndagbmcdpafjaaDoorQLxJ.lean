/-
  The walk of All. Conditions: each theorem's own premises.
-/
import Derived.Test.YtndagbmcdpafjaaDoorQLxI
import Derived.Test.YtndagbmcdpafjaaDoorQTxR
namespace Go.Proofs.YtndagbmcdpafjaaDoor
open Go.Shelf Go.RowKit Go.Lib
attribute [local go_sem] Oper.semAt_some

/-- How a token lies. -/
def LT : Lie Tk := ⟨37, 4, fun t => [.int .i64 (t.kind : Int), .int .i64 (t.pos : Int), .string ⟨t.text.toArray⟩, .int .i64 (t.n : Int)], fun _ => rfl, fun _ u hu => by
  simp at hu
  rcases hu with rfl | rfl | rfl | rfl <;> rfl⟩
theorem LTat : LieAt Tryd.prog 23 LT := by
  have h : (Tryd.prog.info? 37).map (fun i => (i.zero, i.size, i.bytes)) = some (some (.agg #[.int .i64 0, .int .i64 0, .string { data := #[] }, .int .i64 0]), 4, 40) := by kernel_rfl
  obtain ⟨i0, hi, hz0, hz1, hz2⟩ := info_parts h
  exact ⟨Tryd.underlying23, ⟨i0, _, hi, hz0, hz1, by omega, rfl⟩, by decide⟩
/-- A token more, and what is kept by it. -/
theorem append_tok {v : Value} {L : List Tk} {W : World} {base : Nat} (t : Tk) (h : Ow LT W base v L) (hv : L = [] → v = .slice none 0 0) (hle : L.length < 1099511627776) (hb : base ≤ W.heap.size) :
    ∃ v' w', (∀ ty, (Builtin.append_ #[23, 23] ty #[v, .slice (some ⟨W.heap.size, 0, none⟩) 1 1]).run Tryd.prog (W.alloc (.cells (LT.enc t).toArray LT.ty)) = .ok v' w') ∧ Ow LT w' base v' (L ++ [t]) ∧ (∃ A n c, v' = .slice A n c) ∧ W.grownBy w' v.ownBlock ∧ KeepTok W w' := by
  obtain ⟨i, z, hi, hzr, hsz, hsm, hzs⟩ := LTat.info
  have hu := LTat.under
  have hA : Below W.heap.size W (W.alloc (.cells (LT.enc t).toArray LT.ty)) := (Below.refl _ _).alloc (Nat.le_refl _) _
  have hO : Ow LT (W.alloc (.cells (LT.enc t).toArray LT.ty)) base v L := h.keep fun g hg => Below.heap_alloc W _ g (h.block g hg).2
  have hN : ∀ j u, (LT.enc t)[j]? = some u → (W.alloc (.cells (LT.enc t).toArray LT.ty)).cell? ((⟨W.heap.size, 0, none⟩ : Addr).add j) = some u := fun j u hu => by
    rw [lit_add]
    have hB : Blk (W.alloc (.cells (LT.enc t).toArray LT.ty)) W.heap.size _ _ := heap_alloc_new W _
    rw [hB.cell j]
    simpa using hu
  have hmul : (L.length + 1) * i.bytes ≤ 1099511627776 * 64 := Nat.mul_le_mul (by omega) hsm
  have hgr : ∀ (w' : World), Below (W.alloc (.cells (LT.enc t).toArray LT.ty)).heap.size (W.alloc (.cells (LT.enc t).toArray LT.ty)) w' → W.grownBy w' v.ownBlock ∧ KeepTok W w' := fun w' hb' => by
    have hw := hA.trans (hb'.mono (by simp))
    exact ⟨⟨hw.os, hw.tape, hw.output, hw.size, fun k hk _ => hw.block k hk⟩, KeepTok.of_below hw⟩
  have hlast : ∀ (w' : World) (g cap : Nat) (cs : Array Value), base ≤ g → Blk w' g LT.ty cs → L.length + 1 ≤ cap → cap ≤ maxLen → cs.size = cap * LT.n → cs.toList.take ((L.length + 1) * LT.n) = LT.cells L ++ LT.enc t → Ow LT w' base (.slice (some ⟨g, 0, none⟩) (L.length + 1) cap) (L ++ [t]) := fun w' g cap cs h1 h2 h3 h4 h5 h6 => by
    have := Ow.of (L := LT) (l := L ++ [t]) h1 h2 (by simpa using h3) h4 h5 (by rw [LT.cells_append]; simpa [Lie.cells] using h6)
    simpa using this
  rcases hO.form with ⟨rfl, rfl⟩ | ⟨g, cap, cs, rfl, hbg, hg, h1, h2, h3, h4⟩
  · have hr := fun ty => run_append_nil (P := Tryd.prog) (W.alloc (.cells (LT.enc t).toArray LT.ty)) 23 ty LT.ty i z hu hi hzr ⟨W.heap.size, 0, none⟩ 1 1 (LT.enc t) (by rw [LT.len, hsz]; simp) hN (by omega) (by omega) (by omega)
    have hcap := grownCap_ge (W.alloc (.cells (LT.enc t).toArray LT.ty)) 1 0 LT.ty
    have hcm := grownCap_le_maxLen (W.alloc (.cells (LT.enc t).toArray LT.ty)) 1 0 LT.ty (by simp [maxLen])
    obtain ⟨k1, k2⟩ := hgr _ (((Below.refl _ _).drew).alloc (by simp) (.cells ((LT.enc t).toArray ++ Builtin.zeroCells z.cells (grownCap (W.alloc (.cells (LT.enc t).toArray LT.ty)) 1 0 LT.ty - 1)) LT.ty))
    refine ⟨_, _, hr, ?_, ⟨_, _, _, rfl⟩, k1, k2⟩
    refine hlast _ _ _ _ (by simp; omega) (heap_alloc_new (W.alloc (.cells (LT.enc t).toArray LT.ty)).drew _) hcap hcm ?_ ?_
    · simp only [Array.size_append, List.size_toArray, LT.len, size_zeroCells, hzs]
      rw [show LT.n = 4 from rfl]
      omega
    · rw [Array.toList_append]
      show (LT.enc t ++ _).take 4 = [] ++ LT.enc t
      rw [List.take_left' (by rw [LT.len]; rfl)]
      rfl
  · have hL : L ≠ [] := fun e => by have := hv e; cases this
    have hLp : 1 ≤ L.length := List.length_pos_iff.2 hL
    have h40 : LT.n = 4 := rfl
    by_cases hroom : L.length + 1 ≤ cap
    · have hr := fun ty => run_append_room (P := Tryd.prog) (W.alloc (.cells (LT.enc t).toArray LT.ty)) 23 ty LT.ty i hu hi g L.length cap cs hg ⟨W.heap.size, 0, none⟩ 1 1 (LT.enc t) (by rw [LT.len, hsz]; simp) hN (LT.one t) hroom (by rw [LT.len, hsz, h3, h40]; omega)
      obtain ⟨cs', hcs'⟩ : ∃ cs', cs' = (cs.toList.take (L.length * i.size) ++ LT.enc t ++ cs.toList.drop (L.length * i.size + (LT.enc t).length)).toArray := ⟨_, rfl⟩
      rw [← hcs'] at hr
      have hset := setRow_heap (W.alloc (.cells (LT.enc t).toArray LT.ty)) g cs cs' LT.ty (0, 0) hg
      have hoth : ∀ k, k ≠ g → ((W.alloc (.cells (LT.enc t).toArray LT.ty)).setRow g cs').heap[k]? = (W.alloc (.cells (LT.enc t).toArray LT.ty)).heap[k]? := fun k hk => setRow_other _ g k cs' hk
      have hc0 : cs'[0]? = cs[0]? := by
        rw [hcs', List.getElem?_toArray, List.append_assoc, List.getElem?_append_left (by simp; have : cs.size = cap * 4 := h3; rw [hsz, h40]; omega), List.getElem?_take, if_pos (by rw [hsz, h40]; omega)]
        simp
      have hgl : g < W.heap.size := (h.block g rfl).2
      have hgW : Blk W g LT.ty cs := (Below.heap_alloc W _ g hgl).symm.trans hg
      have hsize : ((W.alloc (.cells (LT.enc t).toArray LT.ty)).setRow g cs').heap.size = W.heap.size + 1 := by simp
      refine ⟨_, _, hr, hlast _ g cap cs' hbg hset hroom h2 ?_ ?_, ⟨_, _, _, rfl⟩, ⟨rfl, rfl, rfl, by omega, fun k hk hne => ?_⟩, ?_, ?_, ?_⟩
      · rw [hcs']
        simp only [List.size_toArray, List.length_append, List.length_take, List.length_drop, Array.length_toList, LT.len]
        have : cs.size = cap * 4 := h3
        rw [hsz, h40]
        omega
      · rw [hcs']
        have e4 : (cs.toList.take (L.length * i.size)).length = L.length * 4 := by simp; have : cs.size = cap * 4 := h3; rw [hsz, h40]; omega
        rw [show ((L.length + 1) * LT.n) = (cs.toList.take (L.length * i.size) ++ LT.enc t).length by rw [List.length_append, e4, LT.len, h40]; omega]
        show ((cs.toList.take (L.length * i.size) ++ LT.enc t) ++ _).take _ = _
        rw [List.take_left, ← h4, hsz]
      · rw [hoth k (fun e => hne (by rw [e]; rfl))]
        exact Below.heap_alloc W _ k hk
      · intro k cs2 hk
        have hkl := (Array.getElem?_eq_some_iff.1 hk).1
        rw [hoth k (fun e => ?_), Below.heap_alloc W _ k hkl]
        · exact hk
        · rw [e, show W.heap[g]? = _ from hgW] at hk
          cases hk
      · intro k cs2 hk
        have hkl := (Array.getElem?_eq_some_iff.1 hk).1
        by_cases e : k = g
        · subst e
          rw [show W.heap[k]? = _ from hgW] at hk
          cases hk
          exact ⟨cs', hset, hc0⟩
        · exact ⟨cs2, by rw [hoth k e, Below.heap_alloc W _ k hkl]; exact hk, rfl⟩
      · intro er he
        have cell : ∀ (q : Nat) (x : TypeId × Value), W.cell? ⟨q, 0, none⟩ = some (.iface x.1 x.2) → ((W.alloc (.cells (LT.enc t).toArray LT.ty)).setRow g cs').cell? ⟨q, 0, none⟩ = some (.iface x.1 x.2) := fun q x hq => by
          have hql := World.block_lt_of_cell? W _ hq
          have hne : q ≠ g := fun e => by
            subst e
            have h00 := (hgW.cell 0).symm.trans hq
            have : (LT.cells L)[0]? = some (Value.iface x.1 x.2) := by
              rw [← h4, List.getElem?_take, if_pos (by rw [h40]; omega)]
              simpa using h00
            have h01 := LT.cells_at L 0 (by omega) 0 (by decide)
            rw [show 0 * LT.n + 0 = 0 by omega, this] at h01
            cases h01
          exact (World.cell?_of_block (a := ⟨q, 0, none⟩) ((hoth q hne).trans (Below.heap_alloc W _ q hql))).trans hq
        obtain ⟨te, pe, hrn⟩ := he.rng
        exact ⟨cell _ (_, _) he.many, cell _ (_, _) he.rune, cell _ (_, _) he.numb, te, pe, cell _ (te, pe) hrn⟩
    · have holds : ∀ j u, (LT.cells L)[j]? = some u → (W.alloc (.cells (LT.enc t).toArray LT.ty)).cell? ((⟨g, 0, none⟩ : Addr).add j) = some u := World.ownsRow.cells hO (g := g) rfl
      have hnx := growslice_fits (need := L.length + 1) (old := cap) (bytes := i.bytes) (by omega) (by omega)
      have hr := fun ty => run_append_grow (P := Tryd.prog) (W.alloc (.cells (LT.enc t).toArray LT.ty)) 23 ty LT.ty i z hu hi hzr ⟨g, 0, none⟩ L.length cap (LT.cells L) (by rw [LT.cells_length, hsz]) holds ⟨W.heap.size, 0, none⟩ 1 1 (LT.enc t) (by rw [LT.len, hsz]; simp) hN (by omega) (by omega) hnx
      have hcap := grownCap_ge (W.alloc (.cells (LT.enc t).toArray LT.ty)) (L.length + 1) cap LT.ty
      have hcm := grownCap_le_maxLen (W.alloc (.cells (LT.enc t).toArray LT.ty)) (L.length + 1) cap LT.ty (by simp [maxLen]; omega)
      obtain ⟨k1, k2⟩ := hgr _ (((Below.refl _ _).drew).alloc (by simp) (.cells ((LT.cells L).toArray ++ (LT.enc t).toArray ++ Builtin.zeroCells z.cells (grownCap (W.alloc (.cells (LT.enc t).toArray LT.ty)) (L.length + 1) cap LT.ty - (L.length + 1))) LT.ty))
      refine ⟨_, _, hr, ?_, ⟨_, _, _, rfl⟩, k1, k2⟩
      refine hlast _ _ _ _ (by simp; omega) (heap_alloc_new (W.alloc (.cells (LT.enc t).toArray LT.ty)).drew _) hcap hcm ?_ ?_
      · simp only [Array.size_append, List.size_toArray, LT.len, LT.cells_length, size_zeroCells, hzs, h40]
        omega
      · rw [Array.toList_append, Array.toList_append]
        show (LT.cells L ++ LT.enc t ++ _).take _ = _
        rw [List.take_left' (by rw [List.length_append, LT.cells_length, LT.len, h40]; omega)]
end Go.Proofs.YtndagbmcdpafjaaDoor

/-
  The walk of All. Conditions: each theorem's own premises.
-/
namespace Go.Proofs.YtndagbmcdpafjaaDoor
open Go.Shelf Go.RowKit Go.Lib
attribute [local go_sem] Oper.semAt_some

theorem wpListIn_append_eq {F : Fence} {n : Nat} {P : Program} {w : World} {ops : Array Oper} {rest : List Oper} {o : Oper} {a : Act} {Q : Exit → Act → World → Prop} (hgd : o.guard = none) (s x : Operand) (t : TypeId)
    (ho : o.op = .call { callee := .builtin .append, args := #[s, x], argTypes := #[t, t] }) (v u v' : Value) (w' : World) (hs : a.eval s = v) (hx : a.eval x = u) (hrun : (Builtin.append_ #[t, t] o.type #[v, u]).run P w = .ok v' w')
    (h : wpListIn F n P ops Q rest (a.put o.dst v') w') : wpListIn F n P ops Q (o :: rest) a w := by
  refine wpListIn_plain hgd fun K hK' => ?_
  unfold Oper.wpIn
  refine ⟨?_, ?_⟩
  · simp [Oper.about, ho, resolve, Target.leads, Sem.run_pure]
  · rw [Oper.semAt_plain F _ _ (by rw [ho]; intro c hc'; cases hc')]
    simp [execOp, ho, resolve, invoke, builtin, hs, hx, hrun, Result.andThen]
    exact hK' _ _ h

/-- What All answers. -/
def RetAll (w : World) (er : Nat → Addr) (l : List Tk) (f : Option (Nat × Nat)) (e : Ending) (w' : World) : Prop :=
  Below w.heap.size w w' ∧ match f with
    | none => ∃ v, e = .returned (.tuple #[v, .nilIface]) ∧ Ow LT w' w.heap.size v l
    | some (c, p) => ∃ b, e = .returned (.tuple #[.slice none 0 0, .iface 85 (.pointer (some ⟨b, 0, none⟩))]) ∧ Blk w' b 87 #[.int .i64 (p : Int), .iface 186 (.pointer (some (er c)))]
/-- Where its loop stands. -/
structure AlC (w : World) (n : Nat) (L : List Tk) (W : World) : Prop where
  row : ∃ v, Boxed W (n + 1 + 1) 23 v ∧ Ow LT W n v L ∧ (L = [] → v = .slice none 0 0) ∧ ∃ A k c, v = .slice A k c
  r0 : Boxed W n 23 (.slice none 0 0)
  r1 : Boxed W (n + 1) 25 .nilIface
  bel : Below n w W
def AlI (w : World) (n : Nat) (pre : List Ev) (W : World) : Prop := ∃ L : List Tk, pre = L.map .tok ∧ AlC w n L W
def AlX (w : World) (n : Nat) (er : Nat → Addr) (x : Code) (pre : List Ev) (W : World) : Prop :=
  x = .ret ∧ ∃ (L : List Tk) (c p b : Nat), pre = L.map .tok ++ [.bad c p b] ∧ Boxed W n 23 (.slice none 0 0) ∧ Boxed W (n + 1) 25 (.iface 85 (.pointer (some ⟨b, 0, none⟩))) ∧ Blk W b 87 #[.int .i64 (p : Int), .iface 186 (.pointer (some (er c)))] ∧ Below n w W
theorem AlC.grown {w W W' : World} {n : Nat} {L : List Tk} {row : Option Nat} (h : AlC w n L W) (hg : W.grownBy W' row) (hr : ∀ r, row = some r → n + 3 ≤ r ∧ ∃ o : Obj, W.heap[r]? = some o ∧ o.isCells = false) : AlC w n L W' := by
  obtain ⟨v, h1, h2, h3, h4⟩ := h.row
  have hlt := h1.lt
  have hkeep : ∀ g, v.ownBlock = some g → W'.heap[g]? = W.heap[g]? := fun g hgv => by
    refine hg.block g (h2.block g hgv).2 fun e => ?_
    obtain ⟨o, ho, hc⟩ := (hr _ e.symm).2
    rcases h2.form with ⟨rfl, _⟩ | ⟨g2, cap, cs, rfl, _, hb, _⟩
    · cases hgv
    · cases hgv
      rw [show W.heap[g2]? = _ from hb] at ho
      cases ho
      cases hc
  exact ⟨⟨v, h1.kept hg (fun e => by have := (hr _ e.symm).1; omega), h2.keep hkeep, h3, h4⟩, h.r0.kept hg (fun e => by have := (hr _ e.symm).1; omega), h.r1.kept hg (fun e => by have := (hr _ e.symm).1; omega), h.bel.grown hg (by omega) (fun r e => by have := (hr r e).1; omega)⟩
/-- The error beside a token. -/
def errV : Ev → Value
  | .tok _ => .nilIface
  | .bad _ _ b => .iface 85 (.pointer (some ⟨b, 0, none⟩))
def tokT : Ev → Tk
  | .tok t => t
  | .bad _ _ _ => ⟨0, 0, [], 0⟩
theorem evV_eq (x : Ev) : evV x = #[tkV (tokT x), errV x] := by cases x <;> rfl
/-- What a round's own variable is. -/
def AlAx (n : Nat) (er : Nat → Addr) (s : ByteArray) (x : Ev) (a : Act) (W : World) : Prop :=
  evEl er x W ∧ ∃ b : Nat, n + 3 ≤ b ∧ Blk W b 37 (LT.enc (tokT x)).toArray ∧
    a = { tmps := #[.string s, undef, .pointer (some ⟨n, 0, none⟩), .pointer (some ⟨n + 1, 0, none⟩), .pointer (some ⟨n + 1 + 1, 0, none⟩), .pointer (some ⟨b, 0, none⟩), errV x, .string s, .func (.func 51) #[] #[.pointer (some ⟨n + 1 + 1 + 1, 0, none⟩)], tkV (tokT x), errV x, undef, undef, undef, undef, undef, undef, undef, undef], defers := [] }
theorem evEl_own (n : Nat) (er : Nat → Addr) (x : Ev) : OwnFrom n (fun (_ : Unit) W => evEl er x W) := fun _ W W' row hs hg hr => by
  cases x with
  | tok t => trivial
  | bad c p b =>
    refine Blk.grown (show Blk W b _ _ from hs) hg fun e => ?_
    obtain ⟨o, ho, hc⟩ := (hr b e.symm).2
    rw [show W.heap[b]? = _ from hs] at ho
    cases ho
    cases hc
theorem blk_own {W W' : World} {row : Option Nat} {b n : Nat} {t : TypeId} {cs : Array Value} (h : Blk W b t cs) (hg : W.grownBy W' row) (hr : ∀ r, row = some r → n ≤ r ∧ ∃ o : Obj, W.heap[r]? = some o ∧ o.isCells = false) : Blk W' b t cs := by
  refine h.grown hg fun e => ?_
  obtain ⟨o, ho, hc⟩ := (hr b e.symm).2
  rw [show W.heap[b]? = _ from h] at ho
  cases ho
  cases hc
theorem comes_none {l : List Tk} {f : Option (Nat × Nat)} {L : List Tk} (h : Comes l f (L.map .tok)) : f = none ∧ L = l := by
  have inj : ∀ a b : Tk, Ev.tok a = Ev.tok b → a = b := fun a b e => by cases e; rfl
  cases f with
  | none => exact ⟨rfl, List.map_inj_right inj |>.1 h⟩
  | some cp =>
    obtain ⟨b, hb⟩ := h
    have : Ev.bad cp.1 cp.2 b ∈ L.map Ev.tok := by rw [hb]; simp
    obtain ⟨t, _, ht⟩ := List.mem_map.1 this
    cases ht
theorem came_bad {l : List Tk} {f : Option (Nat × Nat)} {L : List Tk} {c p b : Nat} (h : Came l f (L.map .tok ++ [.bad c p b])) : f = some (c, p) := by
  obtain ⟨ys, hy, hp⟩ := h
  have hm : Ev.bad c p b ∈ ys := hp.subset (by simp)
  cases f with
  | none =>
    have : ys = l.map .tok := hy
    rw [this] at hm
    obtain ⟨t, _, ht⟩ := List.mem_map.1 hm
    cases ht
  | some cp =>
    obtain ⟨b', hb⟩ := hy
    rw [hb] at hm
    rcases List.mem_append.1 hm with hm | hm
    · obtain ⟨t, _, ht⟩ := List.mem_map.1 hm
      cases ht
    · simp at hm
      rw [hm.1, hm.2.1]

set_option maxRecDepth 100000 in
set_option maxHeartbeats 4000000 in
theorem all_any (s : ByteArray) (hs : s.size ≤ 4096) (er : Nat → Addr) (l : List Tk) (f : Option (Nat × Nat)) (hL : LexIs s l f) (hll : l.length ≤ 5000) (w : World) (hE : Lerr w er) :
    Calls Tryd.prog 8 #[.string s] w (RetAll w er l f) := by
  refine (callsIn_wide (n := 3)).1 ?_
  refine callsIn_of_wp_marks Tryd.func8 rfl trivial ?_ rfl
  simp only [Tryd.ntmps8, List.size_toArray, List.length_cons, List.length_nil, Nat.reduceAdd, Nat.reduceSub, Array.replicate_succ, Array.replicate_zero, List.push_toArray, List.append_toArray, List.nil_append, List.cons_append]
  refine wpIn_wide.2 ?_
  go_wp2_with fail
  refine (tokens_mk s _).mono ?_
  rintro e w5 ⟨rfl, rfl⟩
  go_wp2_with fail
  have hB4 : Below w.heap.size w ((((w.alloc (.cells #[.slice none 0 0] 23)).alloc (.cells #[.nilIface] 25)).alloc (.cells #[.slice none 0 0] 23)).alloc (.cells #[.string s] 9)) := ((((Below.refl _ w).alloc (Nat.le_refl _) _).alloc (by simp) _).alloc (by simp; omega) _).alloc (by simp; omega) _
  have hz4 : ((((w.alloc (.cells #[.slice none 0 0] 23)).alloc (.cells #[.nilIface] 25)).alloc (.cells #[.slice none 0 0] 23)).alloc (.cells #[.string s] 9)).heap.size = w.heap.size + 4 := by simp
  have hb1 := Boxed.new w 23 (.slice none 0 0)
  have hb2 := Boxed.new (w.alloc (.cells #[.slice none 0 0] 23)) 25 .nilIface
  have hb3 := Boxed.new ((w.alloc (.cells #[.slice none 0 0] 23)).alloc (.cells #[.nilIface] 25)) 23 (.slice none 0 0)
  have hb4 := Boxed.new (((w.alloc (.cells #[.slice none 0 0] 23)).alloc (.cells #[.nilIface] 25)).alloc (.cells #[.slice none 0 0] 23)) 9 (.string s)
  simp only [World.size_alloc] at hb2 hb3 hb4
  have hC0 : AlC w w.heap.size [] ((((w.alloc (.cells #[.slice none 0 0] 23)).alloc (.cells #[.nilIface] 25)).alloc (.cells #[.slice none 0 0] 23)).alloc (.cells #[.string s] 9)) :=
    ⟨⟨_, hb3.alloc _, Ow.nil _ _ _, fun _ => rfl, _, _, _, rfl⟩, ((hb1.alloc _).alloc _).alloc _, (hb2.alloc _).alloc _, hB4⟩
  have HST := Lib.hid (tokens_el 2 (by omega) (w.heap.size + 1 + 1 + 1) s hs er l f hL _ (by rw [hz4]; omega) hb4.cell (hE.below hB4))
  have HC0 := Lib.hid hC0
  have HZ := Lib.hid hz4
  have HE := Lib.hid hE
  clear hb1 hb2 hb3 hb4 hC0 hz4 hB4 hE
  refine (wpIn_wide (n := 3)).1 ?_
  refine range_el rfl (by omega) (gf := 51) (lb := #[.pointer (some ⟨w.heap.size + 1 + 1 + 1, 0, none⟩)]) rfl trivial (enters_of Tryd.func51 (by kernel_rfl) rfl) HST.out KeepTok.trans
    (fun W l o o' hl ho hc _ => KeepTok.putObj HE.out o' (by rw [HZ.out] at hl; omega) ho hc) (Below.refl _ _) (fun x => by rw [evV_eq]; rfl)
    (fun pre W => AlI w w.heap.size pre W)
    (fun c pre W => AlX w w.heap.size er c pre W)
    (fun s A B row hs hg hr => by
      obtain ⟨L, h1, h2⟩ := hs
      exact ⟨L, h1, h2.grown hg fun r e => by have := (hr r e).1; rw [HZ.out] at this; exact ⟨by omega, (hr r e).2⟩⟩)
    (fun c s A B row hs hg hr => by
      have hr2 : ∀ r, row = some r → w.heap.size + 4 ≤ r ∧ ∃ o : Obj, A.heap[r]? = some o ∧ o.isCells = false := fun r e => by have := hr r e; rw [HZ.out] at this; exact this
      obtain ⟨h1, L, c, p, b, h2, h3, h4, h6, h7⟩ := hs
      exact ⟨h1, L, c, p, b, h2, h3.kept hg (fun e => by have := (hr2 _ e.symm).1; omega), h4.kept hg (fun e => by have := (hr2 _ e.symm).1; omega), blk_own h6 hg hr2, h7.grown hg (by have := h3.lt; omega) fun r e => by have := (hr2 r e).1; omega⟩)
    ⟨[], rfl, HC0.out⟩
    (fun x a W => AlAx w.heap.size er s x a W)
    (fun x a' _ A B row hs hg hr => by
      obtain ⟨h1, b, h2, h3, h4⟩ := hs
      exact ⟨evEl_own _ er x () A B row h1 hg hr, b, h2, blk_own h3 hg hr, h4⟩)
    ?assign ?body ?done ?stop
  case assign =>
    rintro lp pre x W K ⟨L, hL1, hC⟩ hel hK
    have hsz : w.heap.size + 3 ≤ W.heap.size := by
      obtain ⟨v, h1, _⟩ := hC.row
      have := h1.lt
      omega
    have HIn : ∀ o, AlI w w.heap.size pre (W.alloc o) := fun o => ⟨L, hL1, hC.grown (World.grownBy_alloc W o none) (fun r e => by cases e)⟩
    have HH := Lib.hid HIn
    have HEl : ∀ o, evEl er x (W.alloc o) := fun o => by
      cases x with
      | tok t => trivial
      | bad c p b => exact (show Blk W b _ _ from hel).alloc o
    have HL := Lib.hid HEl
    have HX : ∀ t, x = .tok t ∨ True := fun _ => .inr trivial
    clear HIn HEl hC hL1 HX
    rw [evV_eq]
    cases x with
    | tok t =>
      obtain ⟨kind, pos, text, n⟩ := t
      dsimp only [tokT, errV, tkV]
      gi_wp2
      exact hK _ _ (KeepsFrom.of_grownBy (World.grownBy_alloc W _ none) (fun r e => by cases e)) (KeepTok.of_below ((Below.refl _ _).alloc (Nat.le_refl _) _)) (HH.out _) ⟨HL.out _, _, hsz, heap_alloc_new W _, rfl⟩
    | bad c p b =>
      dsimp only [tokT, errV, tkV]
      gi_wp2
      exact hK _ _ (KeepsFrom.of_grownBy (World.grownBy_alloc W _ none) (fun r e => by cases e)) (KeepTok.of_below ((Below.refl _ _).alloc (Nat.le_refl _) _)) (HH.out _) ⟨HL.out _, _, hsz, heap_alloc_new W _, rfl⟩
  case body =>
    rintro lp pre x a' W hlp hrec ⟨L, hL1, hC⟩ ⟨hel, b, hb, hbk, rfl⟩ hlen
    have hll2 : L.length ≤ l.length := by rw [hL1, List.length_map] at hlen; omega
    cases x with
    | tok t =>
      obtain ⟨v, h1, h2, h3, A, k, c, rfl⟩ := hC.row
      obtain ⟨v', w', hrun, k1, ⟨A', k', c', rfl⟩, k3, k4⟩ := append_tok t h2 h3 (by omega) (by have := hC.bel.size; omega)
      obtain ⟨kind, pos, text, n⟩ := t
      dsimp only [tokT, errV, tkV]
      obtain ⟨⟨c0, c1, c2, c3⟩, f0, f1, f2, f3⟩ := blk4 (show Blk W b _ #[.int .i64 (kind : Int), .int .i64 (pos : Int), .string ⟨text.toArray⟩, .int .i64 (n : Int)] from hbk)
      have hl := h1.cell
      have hlf := h1.frozen
      have HC := Lib.hid hC
      clear hC
      have hg2 : ∀ r, some r = (Value.slice A k c).ownBlock → w.heap.size ≤ r ∧ r < W.heap.size ∧ r ≠ w.heap.size ∧ r ≠ w.heap.size + 1 ∧ r ≠ w.heap.size + 1 + 1 := fun r hr => by
        have hr' := hr.symm
        have hb2 := h2.block r hr'
        have hty : ∃ cs, W.heap[r]? = some (Obj.cells cs 37 (0, 0)) := by
          rcases h2.form with ⟨e, _⟩ | ⟨g2, cap, cs, e, _, hbk2, _⟩
          · rw [e] at hr'; cases hr'
          · rw [e] at hr'; cases hr'; exact ⟨cs, hbk2⟩
        obtain ⟨cs, hcs⟩ := hty
        have ne : ∀ (q : Nat) (t : TypeId) (u : Value), Boxed W q t u → t ≠ 37 → r ≠ q := fun q t u hq ht e => by
          subst e
          have := (show W.heap[r]? = _ from hq).symm.trans hcs
          simp at this
          exact ht this.2
        exact ⟨hb2.1, hb2.2, ne _ _ _ HC.out.r0 (by decide), ne _ _ _ HC.out.r1 (by decide), ne _ _ _ h1 (by decide)⟩
      have hb1' : Boxed w' (w.heap.size + 1 + 1) 23 (.slice A k c) := h1.kept k3 (fun e => (hg2 _ e).2.2.2.2 rfl)
      have hb0' : Boxed w' w.heap.size 23 (.slice none 0 0) := HC.out.r0.kept k3 (fun e => (hg2 _ e).2.2.1 rfl)
      have hb2' : Boxed w' (w.heap.size + 1) 25 .nilIface := HC.out.r1.kept k3 (fun e => (hg2 _ e).2.2.2.1 rfl)
      have hlf' := hb1'.frozen
      have hl' := hb1'.cell
      have hBel' : Below w.heap.size w w' := HC.out.bel.grown k3 (HC.out.bel.size) (fun r e => (hg2 r e.symm).1)
      have hK4 : KeepTok W (w'.setCell ⟨w.heap.size + 1 + 1, 0, none⟩ (.slice A' k' c')) := k4.trans (KeepTok.setBox HE.out (by omega) hb1' (by decide) (by decide) _)
      have hKF : KeepsFrom ((((w.alloc (.cells #[.slice none 0 0] 23)).alloc (.cells #[.nilIface] 25)).alloc (.cells #[.slice none 0 0] 23)).alloc (.cells #[.string s] 9)).heap.size W (w'.setCell ⟨w.heap.size + 1 + 1, 0, none⟩ (.slice A' k' c')) := by
        refine KeepsFrom.trans ⟨k3.size, fun i o hB hi ho => ?_⟩ ((KeepsOthers.setCell _ _ _).from _)
        refine (k3.block i (Array.getElem?_eq_some_iff.1 hi).1 (fun e => ?_)).trans hi
        rcases h2.form with ⟨e2, _⟩ | ⟨g2, cap, cs, e2, _, hbk2, _⟩
        · rw [e2] at e; cases e
        · rw [e2] at e; cases e
          have := (show W.heap[_]? = _ from hbk2).symm.trans hi
          cases this
          cases ho
      have hAl : AlI w w.heap.size (pre ++ [.tok ⟨kind, pos, text, n⟩]) (w'.setCell ⟨w.heap.size + 1 + 1, 0, none⟩ (.slice A' k' c')) := by
        refine ⟨L ++ [⟨kind, pos, text, n⟩], by rw [hL1, List.map_append]; rfl, ⟨_, hb1'.set _, ?_, fun e => ?_, _, _, _, rfl⟩, hb0'.kept (grownBy_setCell' _ _ _) (by simp; omega), hb2'.kept (grownBy_setCell' _ _ _) (by simp), hBel'.setCell (p := ⟨w.heap.size + 1 + 1, 0, none⟩) (by show w.heap.size ≤ w.heap.size + 1 + 1; omega) _⟩
        · refine k1.keep fun g hgv => Below.heap_setCell _ _ _ g fun e => ?_
          rcases k1.form with ⟨e2, _⟩ | ⟨g2, cap, cs, e2, _, hbk2, _⟩
          · rw [e2] at hgv; cases hgv
          · rw [e2] at hgv; cases hgv
            have := (show w'.heap[w.heap.size + 1 + 1]? = _ from hb1').symm.trans ((congrArg (fun z => w'.heap[z]?) e.symm).trans hbk2)
            simp at this
            exact absurd this.2 (by decide)
        · simp at e
      have HAl := Lib.hid hAl
      have HKF := Lib.hid hKF
      have HK4 := Lib.hid hK4
      clear hAl hKF hK4 hBel' hb0' hb1' hb2' hg2 k1 k3 k4 h1 h2 h3
      gi_wp2_with (first | (gi_at_builtin; refine wpListIn_append_eq rfl _ _ 23 rfl _ _ _ w' rfl rfl (hrun _) ?_) | gi_in)
      exact ⟨HKF.out, HK4.out, HAl.out⟩
    | bad c p b2 =>
      dsimp only [tokT, errV, tkV]
      have hA0 := hC.r0
      have hA1 := hC.r1
      have hc0 := hA0.cell
      have hf0 := hA0.frozen
      have hc1 := hA1.cell
      have hf1 := hA1.frozen
      have hne : b2 ≠ w.heap.size ∧ b2 ≠ w.heap.size + 1 := by
        have ne : ∀ (q : Nat) (t : TypeId) (u : Value), Boxed W q t u → b2 ≠ q := fun q t u hq e => by
          subst e
          have := (show W.heap[b2]? = _ from hq).symm.trans hel
          simp at this
        exact ⟨ne _ _ _ hA0, ne _ _ _ hA1⟩
      have hb0' := hA0.set (.slice none 0 0)
      have hb1' : Boxed (W.setCell ⟨w.heap.size, 0, none⟩ (.slice none 0 0)) (w.heap.size + 1) 25 .nilIface := hA1.kept (grownBy_setCell' _ _ _) (by simp)
      have hc1' := hb1'.cell
      have hf1' := hb1'.frozen
      have hX : AlX w w.heap.size er .ret (pre ++ [.bad c p b2]) ((W.setCell ⟨w.heap.size, 0, none⟩ (.slice none 0 0)).setCell ⟨w.heap.size + 1, 0, none⟩ (.iface 85 (.pointer (some ⟨b2, 0, none⟩)))) :=
        ⟨rfl, L, c, p, b2, by rw [hL1], hb0'.kept (grownBy_setCell' _ _ _) (by simp), hb1'.set _, ((show Blk W b2 _ _ from hel).far hne.1 _).far hne.2 _, ((hC.bel.setCell (p := ⟨w.heap.size, 0, none⟩) (Nat.le_refl _) _).setCell (p := ⟨w.heap.size + 1, 0, none⟩) (by show w.heap.size ≤ w.heap.size + 1; omega) _)⟩
      have HX := Lib.hid hX
      clear hX hC hA0 hA1 hb0' hb1' hel hbk
      gi_wp2
      exact ⟨((KeepsOthers.setCell _ _ _).trans (KeepsOthers.setCell _ _ _)).from _, HX.out⟩
  case done =>
    rintro D ys W hD hS ⟨L, rfl, hC⟩ hK
    obtain ⟨rfl, rfl⟩ := comes_none hS
    rw [HZ.out] at hD
    obtain ⟨v, h1, h2, -, A, k, c, rfl⟩ := hC.row
    have hl := h1.cell
    have hA0 := hC.r0
    have hf0 := hA0.frozen
    have hc0 := hA0.cell
    have hb0 := hA0.set (.slice A k c)
    have hb1 : Boxed (W.setCell ⟨w.heap.size, 0, none⟩ (.slice A k c)) (w.heap.size + 1) 25 .nilIface := hC.r1.kept (grownBy_setCell' _ _ _) (by simp)
    have hf1 := hb1.frozen
    have hc1 := hb1.cell
    have hB := (hC.bel.setCell (p := ⟨w.heap.size, 0, none⟩) (Nat.le_refl _) (.slice A k c)).setCell (p := ⟨w.heap.size + 1, 0, none⟩) (by show w.heap.size ≤ w.heap.size + 1; omega) .nilIface
    have hOw : Ow LT ((W.setCell ⟨w.heap.size, 0, none⟩ (.slice A k c)).setCell ⟨w.heap.size + 1, 0, none⟩ .nilIface) w.heap.size (.slice A k c) L := h2.keep fun g hgv => by
      have hne : ∀ (q : Nat) (u : Value) (t : TypeId), Boxed W q t u → g ≠ q := fun q u t hq e => by
        subst e
        rcases h2.form with ⟨e2, _⟩ | ⟨g2, cap, cs, e2, _, hbk2, h8, h9, h10, _⟩
        · rw [e2] at hgv; cases hgv
        · rw [e2] at hgv; cases hgv
          have := (show W.heap[_]? = _ from hq).symm.trans hbk2
          simp at this
          have h11 := congrArg Array.size this.1
          rw [h10] at h11
          have : LT.n = 4 := rfl
          simp [this] at h11
          omega
      exact (Below.heap_setCell _ _ _ g (hne _ _ _ hC.r1)).trans (Below.heap_setCell _ _ _ g (hne _ _ _ hC.r0))
    have hK' := (KeepsOthers.setCell (W.setCell ⟨w.heap.size, 0, none⟩ (.slice A k c)) ⟨w.heap.size + 1, 0, none⟩ .nilIface).same D _ ((KeepsOthers.setCell W ⟨w.heap.size, 0, none⟩ (.slice A k c)).same D _ hK rfl) rfl
    have hB0 := hb0.kept (grownBy_setCell' (W.setCell ⟨w.heap.size, 0, none⟩ (.slice A k c)) (w.heap.size + 1) .nilIface) (by simp)
    have hB1 := hb1.set .nilIface
    obtain ⟨WF, hWF⟩ : ∃ WF, WF = (W.setCell ⟨w.heap.size, 0, none⟩ (.slice A k c)).setCell ⟨w.heap.size + 1, 0, none⟩ .nilIface := ⟨_, rfl⟩
    rw [← hWF] at hB hOw hK' hB0 hB1
    have hq0 := (hB0.kept (grownBy_putObj' WF D (.deferred none)) (fun e => by cases e; omega)).cell
    have hq1 := (hB1.kept (grownBy_putObj' WF D (.deferred none)) (fun e => by cases e; omega)).cell
    have HR : Hid (RetAll w er L none (.returned (.tuple #[.slice A k c, .nilIface])) (WF.putObj D (.deferred none))) := Lib.hid ⟨hB.trans (belowK_b (w := w) (Nat.le_refl _) _ D _ _ (by omega) hK' rfl rfl), _, rfl, hOw.keep fun g hgv => World.putObj_heap_other (fun e => by
      subst e
      rcases hOw.form with ⟨e2, _⟩ | ⟨g2, cap, cs, e2, _, hbk2, _⟩
      · rw [e2] at hgv; cases hgv
      · rw [e2] at hgv; cases hgv
        have := (show WF.heap[_]? = _ from hbk2).symm.trans hK'
        cases this)⟩
    have HK5 := Lib.hid hK'
    have HQ0 := Lib.hid hq0
    have HQ1 := Lib.hid hq1
    clear hC h1 h2 hb0 hb1 hB hOw hK' hB0 hB1 hq0 hq1 hK hS hL
    gi_wp2
    go_wp2
    rw [← hWF]
    have hq0 := HQ0.out
    have hq1 := HQ1.out
    refine ⟨by simp, .inl ⟨_, _, rfl, run_takeDeferred HK5.out, ?_⟩⟩
    exact ⟨_, by simp [results, Tryd.results8, go_sem, hq0, hq1], HR.out⟩
  case stop =>
    rintro D c pre W hD hpre ⟨rfl, L, c, p, b, rfl, h3, h4, h6, h7⟩ hK
    obtain rfl := came_bad hpre
    rw [HZ.out] at hD
    have hq0 := (h3.kept (grownBy_putObj' W D (.deferred none)) (fun e => by cases e; omega)).cell
    have hq1 := (h4.kept (grownBy_putObj' W D (.deferred none)) (fun e => by cases e; omega)).cell
    have HR : Hid (RetAll w er l (some (c, p)) (.returned (.tuple #[.slice none 0 0, .iface 85 (.pointer (some ⟨b, 0, none⟩))])) (W.putObj D (.deferred none))) := Lib.hid ⟨h7.trans (belowK_b (w := w) (Nat.le_refl _) _ D _ _ (by omega) hK rfl rfl), b, rfl, (World.putObj_heap_other (fun e => by
      subst e
      have := (show W.heap[_]? = _ from h6).symm.trans hK
      cases this)).trans h6⟩
    clear h3 h4 h6 h7 hpre hL
    gi_wp2
    go_wp2
    refine ⟨by simp, .inl ⟨_, _, rfl, run_takeDeferred hK, ?_⟩⟩
    exact ⟨_, by simp [results, Tryd.results8, go_sem, hq0, hq1], HR.out⟩
end Go.Proofs.YtndagbmcdpafjaaDoor

/-
  Tokens read out of lists that begin with them; the walk of the statements' first. Conditions: each theorem's own premises.
-/
namespace Go.Proofs.YtndagbmcdpafjaaDoor
open Go.Shelf Go.RowKit Go.Lib

theorem takeWhile_word {p : Nat → Bool} {w r : List Nat} (hw : ∀ x ∈ w, p x = true) (hr : ∀ x, r.head? = some x → p x = false) : (w ++ r).takeWhile p = w := by
  cases r with
  | nil => rw [List.append_nil]; exact takeWhile_all p w hw
  | cons a t => exact takeWhile_stop p w a t hw (hr a rfl)
/-- What is skipped lies behind one; what is read begins there. -/
theorem sk_at {R : List Nat} {i : Nat} {l : List Nat} (h : skp (R.drop i) = l) : R.drop (sk R i) = l ∧ sk R i = R.length - l.length ∧ l.length ≤ R.length := by
  have h1 := sk_drop R i
  rw [h] at h1
  have h2 : l.length ≤ R.length := by
    have := congrArg List.length h1
    rw [List.length_drop] at this
    omega
  refine ⟨h1, ?_, h2⟩
  unfold sk
  rw [h]
theorem at0_drop {R : List Nat} {i a : Nat} {t : List Nat} (h : R.drop i = a :: t) : at0 R i = a := by
  have := congrArg List.head? h
  rw [List.head?_drop] at this
  unfold at0 List.getD
  rw [this]
  rfl
theorem bh_word {p : Nat → Bool} {R : List Nat} {i : Nat} {w r : List Nat} (h : R.drop i = w ++ r) (hw : ∀ x ∈ w, p x = true) (hr : ∀ x, r.head? = some x → p x = false) : bh p R i = i + w.length := by
  unfold bh
  rw [h, takeWhile_word hw hr]
theorem cut_word {R : List Nat} {i : Nat} {w r : List Nat} (h : R.drop i = w ++ r) : cutE R i (i + w.length) = encs w := by
  unfold cutE
  rw [h, Nat.add_sub_cancel_left, List.take_left]
theorem drop_word {R : List Nat} {i : Nat} {w r : List Nat} (h : R.drop i = w ++ r) : R.drop (i + w.length) = r := by
  rw [← List.drop_drop, h, List.drop_left]
theorem let_pos {a : Nat} (h : letB (a : Int) = true) : a ≠ 0 := fun e => by subst e; revert h; decide
theorem let_in {a : Nat} (h : letB (a : Int) = true) : inNm a = true := by simp [inNm, h]
theorem dig_pos {a : Nat} (h : isDig a = true) : a ≠ 0 ∧ letB (a : Int) = false := by
  unfold isDig digB at h
  have := of_decide_eq_true h
  exact ⟨by omega, by simp [letB]; omega⟩
theorem rd_name {R : List Nat} {i a : Nat} {t r : List Nat} (h : skp (R.drop i) = (a :: t) ++ r) (hl : letB (a : Int) = true) (ht : ∀ x ∈ t, inNm x = true) (hr : ∀ x, r.head? = some x → inNm x = false) (h24 : (encs (a :: t)).length ≤ 24) :
    rd R i = .tok ⟨if encs (a :: t) ∈ kws then 2 else 1, R.length - ((a :: t) ++ r).length, encs (a :: t), 0⟩ (R.length - r.length) ∧ R.drop (R.length - r.length) = r := by
  obtain ⟨h1, h2, h3⟩ := sk_at h
  have hw : ∀ x ∈ a :: t, inNm x = true := fun x hx => by
    rcases List.mem_cons.1 hx with rfl | hx
    · exact let_in hl
    · exact ht x hx
  have ha := at0_drop h1
  have hb := bh_word h1 hw hr
  have hc := cut_word h1
  have hd := drop_word h1
  have he : sk R i + (a :: t).length = R.length - r.length := by rw [h2, List.length_append]; rw [List.length_append] at h3; omega
  unfold rd rdAt nameAt
  rw [ha, if_neg (let_pos hl), if_pos hl, hb, hc, if_neg (by omega), he, h2]
  rw [he] at hd
  exact ⟨rfl, hd⟩
theorem rd_num {R : List Nat} {i a v : Nat} {t r : List Nat} (h : skp (R.drop i) = (a :: t) ++ r) (hw : ∀ x ∈ a :: t, isDig x = true) (hr : ∀ x, r.head? = some x → inNm x = false) (hv : numB (encs (a :: t)) = some v) :
    rd R i = .tok ⟨3, R.length - ((a :: t) ++ r).length, encs (a :: t), v⟩ (R.length - r.length) ∧ R.drop (R.length - r.length) = r := by
  obtain ⟨h1, h2, h3⟩ := sk_at h
  have ha := at0_drop h1
  have hr2 : ∀ x, r.head? = some x → isDig x = false := fun x hx => by
    have := hr x hx
    simp [inNm] at this
    exact this.1.2
  have hb := bh_word h1 hw hr2
  have hc := cut_word h1
  have hd := drop_word h1
  have he : sk R i + (a :: t).length = R.length - r.length := by rw [h2, List.length_append]; rw [List.length_append] at h3; omega
  obtain ⟨k1, k2⟩ := dig_pos (hw a (by simp))
  have hin : inNm (at0 R (R.length - r.length)) = false := by
    rw [he] at hd
    cases r with
    | nil => rw [at0_ge (by simp)]; decide
    | cons b u => rw [at0_drop hd]; exact hr b rfl
  unfold rd rdAt numAt
  rw [ha, if_neg k1, if_neg (by simp [k2]), if_pos (hw a (by simp)), hb, hc, hv]
  dsimp only
  rw [he, hin, h2]
  rw [he] at hd
  exact ⟨rfl, hd⟩
theorem rd_sign {R : List Nat} {i a : Nat} {t r : List Nat} (h : skp (R.drop i) = (a :: t) ++ r) (h0 : a ≠ 0) (hl : letB (a : Int) = false) (hg : isDig a = false) (hs : sgn a ((t ++ r).headD 0) = t.length + 1) :
    rd R i = .tok ⟨4, R.length - ((a :: t) ++ r).length, encs (a :: t), 0⟩ (R.length - r.length) ∧ R.drop (R.length - r.length) = r := by
  obtain ⟨h1, h2, h3⟩ := sk_at h
  have ha := at0_drop h1
  have h4 : R.drop (sk R i + 1) = t ++ r := by rw [← List.drop_drop, h1]; rfl
  have ha2 : at0 R (sk R i + 1) = (t ++ r).headD 0 := by
    cases ht : t ++ r with
    | nil => rw [ht] at h4; rw [at0_ge (by have := congrArg List.length h4; simp at this; omega)]; rfl
    | cons b u => rw [ht] at h4; exact at0_drop h4
  have hc := cut_word h1
  have hd := drop_word h1
  have he : sk R i + (a :: t).length = R.length - r.length := by rw [h2, List.length_append]; rw [List.length_append] at h3; omega
  unfold rd rdAt signAt
  rw [ha, ha2, if_neg h0, if_neg (by simp [hl]), if_neg (by simp [hg]), hs, if_neg (by omega)]
  rw [show t.length + 1 = (a :: t).length from rfl, hc, he, h2]
  rw [he] at hd
  exact ⟨rfl, hd⟩
theorem rd_end {R : List Nat} {i : Nat} (h : skp (R.drop i) = []) : rd R i = .tok ⟨0, R.length, [], 0⟩ R.length := by
  obtain ⟨h1, h2, _⟩ := sk_at h
  have h3 : sk R i = R.length := h2
  unfold rd rdAt
  rw [h3, if_pos (at0_ge (Nat.le_refl _))]
/-- A token more. -/
theorem lx_tok {R : List Nat} (hR : okRs R) {i : Nat} {t : Tk} {r : List Nat} (hi : i ≤ R.length) (h : rd R i = .tok t (R.length - r.length)) (h0 : t.kind ≠ 0) : lx R i = (t :: (lx R (R.length - r.length)).1, (lx R (R.length - r.length)).2) := lx_more hR hi h h0
theorem lx_last {R : List Nat} {i : Nat} (h : skp (R.drop i) = []) : lx R i = ([⟨0, R.length, [], 0⟩], none) := lx_end (rd_end h) rfl

/-- ASCII runes. -/
theorem rns_ascii : ∀ (l : List UInt8), (∀ c ∈ l, c.toNat < 128) → rns l = l.map (·.toNat)
  | [], _ => by unfold rns; rw [pcs_nil]; rfl
  | c :: t, h => by
    have := rns_ascii t (fun x hx => h x (List.mem_cons_of_mem _ hx))
    unfold rns at this ⊢
    rw [pcs_ascii _ (h c (by simp)), List.map_cons, this]
    rfl
theorem noBad_of {s : ByteArray} (h : ∀ d ∈ pcs s.data.toList, badD d = false) : noBad s := h
/-- The chapter's example. -/
def exS : ByteArray := ⟨#[97, 60, 61, 49]⟩
theorem exRns : rns exS.data.toList = [97, 60, 61, 49] := by rw [rns_ascii _ (by decide)]; rfl
theorem exPcs : pcs exS.data.toList = [(97, 1), (60, 1), (61, 1), (49, 1)] := by
  show pcs [97, 60, 61, 49] = _
  rw [pcs_ascii _ (by decide), pcs_ascii _ (by decide), pcs_ascii _ (by decide), pcs_ascii _ (by decide), pcs_nil]
  rfl
theorem exBad : noBad exS := fun d hd => by
  rw [exPcs] at hd
  simp at hd
  rcases hd with rfl | rfl | rfl | rfl <;> decide
def exL : List Tk := [⟨1, 0, [97], 0⟩, ⟨4, 1, [60, 61], 0⟩, ⟨3, 3, [49], 1⟩, ⟨0, 4, [], 0⟩]
theorem exLx : LexIs exS exL none := by
  refine .inl ⟨exBad, ?_⟩
  have hok := exBad.rns.1
  rw [exRns] at hok ⊢
  have k1 := rd_name (R := [97, 60, 61, 49]) (i := 0) (a := 97) (t := []) (r := [60, 61, 49]) (by exact skp_stop (by decide) (by simp)) (by decide) (by simp) (by intro x hx; simp at hx; subst hx; decide) (by decide)
  have k2 := rd_sign (R := [97, 60, 61, 49]) (i := 1) (a := 60) (t := [61]) (r := [49]) (by exact skp_stop (by decide) (by simp)) (by decide) (by decide) (by decide) (by decide)
  have k3 := rd_num (R := [97, 60, 61, 49]) (i := 3) (a := 49) (t := []) (r := []) (v := 1) (by exact skp_stop (by decide) (by simp)) (by intro x hx; simp at hx; subst hx; decide) (by simp) (by decide)
  rw [lx_tok hok (by decide) k1.1 (by decide)]
  rw [show ([97, 60, 61, 49] : List Nat).length - [60, 61, 49].length = 1 from rfl]
  rw [lx_tok hok (by decide) k2.1 (by decide)]
  rw [show ([97, 60, 61, 49] : List Nat).length - [49].length = 3 from rfl]
  rw [lx_tok hok (by decide) k3.1 (by decide)]
  rw [show ([97, 60, 61, 49] : List Nat).length - ([] : List Nat).length = 4 from rfl]
  rw [lx_last (by exact skp_nil)]
  rfl

/-- Where a row that has something lies, and its cells. -/
theorem Ow.at_ {α : Type} {L : Lie α} {w : World} {base : Nat} {v : Value} {l : List α} (h : Ow L w base v l) (hl : l ≠ []) : ∃ g cap, v = .slice (some ⟨g, 0, none⟩) l.length cap ∧ base ≤ g ∧ g < w.heap.size ∧ l.length ≤ cap ∧
    ∀ (k : Nat) (hk : k < l.length) (j : Nat) (u : Value), (L.enc l[k])[j]? = some u → w.cell? ⟨g, k * L.n + j, none⟩ = some u := by
  rcases h.form with ⟨_, e⟩ | ⟨g, cap, cs, rfl, hb, hg, h1, h2, h3, h4⟩
  · exact absurd e hl
  · refine ⟨g, cap, rfl, hb, hg.lt, h1, fun k hk j u hu => ?_⟩
    have hj : j < L.n := by rw [← L.len l[k]]; exact (List.getElem?_eq_some_iff.1 hu).1
    have hc := L.cells_at l k hk j hj
    rw [hu, ← h4, List.getElem?_take] at hc
    split at hc
    · rw [hg.cell]; simpa using hc
    · cases hc

set_option maxRecDepth 100000 in
set_option maxHeartbeats 1000000 in
theorem lfirst_any (er : Nat → Addr) (w : World) (hE : Lerr w er) : Calls Tryd.prog 7 #[] w (RetN w true) := by
  have HA := Lib.hid (all_any exS (by decide) er exL none exLx (by decide) w hE)
  clear hE
  go_enter Tryd.func7, Tryd.ntmps7
  go_wp2_with fail
  refine HA.out.mono ?_
  rintro e w1 ⟨hB, v, rfl, hO⟩
  obtain ⟨g, c, rfl, -, -, hlc, hcell⟩ := hO.at_ (by decide)
  have h1 : w1.cell? ⟨g, 6, none⟩ = some (.string ⟨#[60, 61]⟩) := hcell 1 (by decide) 2 _ rfl
  have h2 : w1.cell? ⟨g, 11, none⟩ = some (.int .i64 1) := hcell 2 (by decide) 3 _ rfl
  clear hcell hO
  rw [show exL.length = 4 from rfl] at hlc ⊢
  go_wp2
  go_ret
  exact ⟨rfl, hB⟩
end Go.Proofs.YtndagbmcdpafjaaDoor

/-
  Tokens put one behind the other with gaps between, as plain lists. Conditions: none.
-/
namespace Go.Proofs.YtndagbmcdpafjaaDoor
open Go.Shelf Go.RowKit Go.Lib

/-- A rune that any text may have. -/
def goodR (r : Nat) : Bool := decide (r ≤ 1114111) && decide (r < 55296 ∨ 57343 < r) && !ctlB (r : Int) && decide (r ≠ 65533)
theorem goodR_ok {r : Nat} (h : goodR r = true) : okR r ∧ ctlB (r : Int) = false ∧ r ≠ 65533 := by
  unfold goodR at h
  simp only [Bool.and_eq_true, decide_eq_true_eq, Bool.not_eq_true'] at h
  exact ⟨⟨h.1.1.1, h.1.1.2⟩, h.1.2, h.2⟩
theorem pcs_encs : ∀ (R : List Nat), (∀ r ∈ R, goodR r = true) → (∀ d ∈ pcs (encs R), badD d = false) ∧ (pcs (encs R)).map (·.1) = R
  | [], _ => by rw [encs_nil, pcs_nil]; exact ⟨fun d hd => (by cases hd), rfl⟩
  | r :: t, h => by
    obtain ⟨h1, h2, h3⟩ := goodR_ok (h r (by simp))
    obtain ⟨i1, i2⟩ := pcs_encs t (fun x hx => h x (List.mem_cons_of_mem _ hx))
    obtain ⟨m, hm⟩ := pcs_enc (r : Int) (by omega) (by have := h1.1; omega) (by have := h1.2; omega) (encs t)
    rw [encode_encB r h1] at hm
    rw [encs_cons, hm]
    refine ⟨fun d hd => ?_, ?_⟩
    · rcases List.mem_cons.1 hd with rfl | hd
      · unfold badD
        rw [Bool.or_eq_false_iff]
        exact ⟨by simpa using h2, by simp [h3]⟩
      · exact i1 d hd
    · rw [List.map_cons, i2]
      rfl
theorem lexIs_encs {S : ByteArray} {R : List Nat} {l : List Tk} {f : Option (Nat × Nat)} (hS : S.data.toList = encs R) (hR : ∀ r ∈ R, goodR r = true) (h : okRs R → lx R 0 = (l, f)) : LexIs S l f := by
  obtain ⟨h1, h2⟩ := pcs_encs R hR
  have hn : noBad S := fun d hd => h1 d (by rw [← hS]; exact hd)
  have hr : rns S.data.toList = R := by unfold rns; rw [hS]; exact h2
  have hok := hn.rns.1
  rw [hr] at hok
  exact .inl ⟨hn, by rw [hr, h hok]⟩

/-- A token's runes, the gap behind it, its kind and number. -/
structure It where
  w : List Nat
  g : List Nat
  k : Nat
  n : Nat
/-- A gap: it is skipped. -/
def Gap (g : List Nat) : Prop := ∀ r, skp (g ++ r) = skp r
structure It.Good (x : It) : Prop where
  kind : x.k ≠ 0
  gap : Gap x.g
  stop : ∀ r, skp (x.w ++ (x.g ++ r)) = x.w ++ (x.g ++ r)
  reads : ∀ (R : List Nat) (i : Nat) (r : List Nat), skp (R.drop i) = x.w ++ (x.g ++ r) → rd R i = .tok ⟨x.k, R.length - (x.w ++ (x.g ++ r)).length, encs x.w, x.n⟩ (R.length - (x.g ++ r).length) ∧ R.drop (R.length - (x.g ++ r).length) = x.g ++ r
def catI : List It → List Nat
  | [] => []
  | x :: t => x.w ++ (x.g ++ catI t)
/-- Their tokens in a text of N runes, z of which come behind them. -/
def tkI (N z : Nat) : List It → List Tk
  | [] => []
  | x :: t => ⟨x.k, N - (x.w ++ (x.g ++ catI t)).length - z, encs x.w, x.n⟩ :: tkI N z t
theorem tkI_length (N z : Nat) : ∀ (l : List It), (tkI N z l).length = l.length
  | [] => rfl
  | x :: t => by simp [tkI, tkI_length N z t]
theorem lx_items {R : List Nat} (hok : okRs R) (tail : List Nat) (lt : List Tk) (ft : Option (Nat × Nat)) (hE : ∀ j, j ≤ R.length → skp (R.drop j) = skp tail → lx R j = (lt, ft)) :
    ∀ (l : List It), (∀ x ∈ l, x.Good) → ∀ i, i ≤ R.length → skp (R.drop i) = skp (catI l ++ tail) → lx R i = (tkI R.length tail.length l ++ lt, ft)
  | [], _, i, hi, h => hE i hi h
  | x :: t, hg, i, hi, h => by
    have hx := hg x (by simp)
    have e : catI (x :: t) ++ tail = x.w ++ (x.g ++ (catI t ++ tail)) := by simp [catI]
    rw [e, hx.stop] at h
    obtain ⟨h1, h2⟩ := hx.reads R i _ h
    have h3 := lx_items hok tail lt ft hE t (fun y hy => hg y (List.mem_cons_of_mem _ hy)) (R.length - (x.g ++ (catI t ++ tail)).length) (Nat.sub_le _ _) (by rw [h2, hx.gap])
    rw [lx_more hok hi h1 hx.kind, h3]
    have el : R.length - (x.w ++ (x.g ++ (catI t ++ tail))).length = R.length - (x.w ++ (x.g ++ catI t)).length - tail.length := by simp; omega
    rw [el]
    rfl
/-- Tokens alone. -/
theorem lx_all {R : List Nat} (hok : okRs R) (l : List It) (hg : ∀ x ∈ l, x.Good) (h : R = catI l) : lx R 0 = (tkI R.length 0 l ++ [⟨0, R.length, [], 0⟩], none) :=
  lx_items hok [] _ none (fun j hj hs => by rw [skp_nil] at hs; exact lx_last hs) l hg 0 (Nat.zero_le _) (by rw [List.append_nil, ← h]; rfl)

theorem Gap.blank {b : Nat} {g : List Nat} (hb : blaB (b : Int) = true) (hg : Gap g) : Gap (b :: g) := fun r => by rw [List.cons_append, skp_bla _ hb, hg r]
theorem Gap.nil : Gap [] := fun _ => rfl
theorem Gap.remark {m g : List Nat} (hm : ∀ x ∈ m, noNl x = true) (hg : Gap g) : Gap (45 :: 45 :: (m ++ 10 :: g)) := fun r => by
  rw [List.cons_append, skp_rem (by decide) rfl (by simp)]
  have e : (45 :: (45 :: (m ++ 10 :: g) ++ r)).dropWhile noNl = 10 :: (g ++ r) := by
    have h1 : ∀ (q : List Nat), (∀ x ∈ q, noNl x = true) → (q ++ 10 :: (g ++ r)).dropWhile noNl = 10 :: (g ++ r) := fun q hq => by
      induction q with
      | nil => rfl
      | cons a q ih => rw [List.cons_append, List.dropWhile_cons_of_pos (hq a (by simp)), ih fun x hx => hq x (List.mem_cons_of_mem _ hx)]
    have := h1 (45 :: 45 :: m) (fun x hx => by
      simp at hx
      rcases hx with rfl | hx
      · decide
      · exact hm x hx)
    simpa using this
  rw [e, skp_bla _ (by decide), hg r]
theorem head_gap {g r : List Nat} {p : Nat → Bool} (h : ∃ b t, g = b :: t ∧ p b = false) : ∀ x, (g ++ r).head? = some x → p x = false := by
  obtain ⟨b, t, rfl, hb⟩ := h
  intro x hx
  simp at hx
  rw [← hx]
  exact hb
theorem stop_of {a : Nat} {t : List Nat} (hb : blaB (a : Int) = false) (h : a ≠ 45 ∨ t.head? ≠ some 45) : skp (a :: t) = a :: t :=
  skp_stop hb fun h2 => by
    rcases h with h | h
    · exact h h2.1
    · exact h h2.2
theorem let_bla {a : Nat} (h : letB (a : Int) = true) : blaB (a : Int) = false ∧ a ≠ 45 := by
  unfold letB at h
  have := of_decide_eq_true h
  exact ⟨by simp [blaB]; omega, by omega⟩
theorem dig_bla {a : Nat} (h : isDig a = true) : blaB (a : Int) = false ∧ a ≠ 45 := by
  unfold isDig digB at h
  have := of_decide_eq_true h
  exact ⟨by simp [blaB]; omega, by omega⟩
theorem It.name {a : Nat} {t g : List Nat} (hl : letB (a : Int) = true) (ht : ∀ x ∈ t, inNm x = true) (h24 : (encs (a :: t)).length ≤ 24) (hg : Gap g) (hh : ∃ b u, g = b :: u ∧ inNm b = false) (k : Nat) (hk : k = if encs (a :: t) ∈ kws then 2 else 1) :
    (It.mk (a :: t) g k 0).Good :=
  ⟨by rw [hk]; split <;> simp, hg, fun r => stop_of (let_bla hl).1 (.inl (let_bla hl).2), fun R i r h => by rw [hk]; exact rd_name h hl ht (head_gap hh) h24⟩
theorem It.num {a v : Nat} {t g : List Nat} (hw : ∀ x ∈ a :: t, isDig x = true) (hv : numB (encs (a :: t)) = some v) (hg : Gap g) (hh : ∃ b u, g = b :: u ∧ inNm b = false) :
    (It.mk (a :: t) g 3 v).Good :=
  ⟨by simp, hg, fun r => stop_of (dig_bla (hw a (by simp))).1 (.inl (dig_bla (hw a (by simp))).2), fun R i r h => rd_num h hw (head_gap hh) hv⟩
/-- A sign of one rune, behind which another one stands that makes no longer sign of it. -/
theorem It.sign1 {a : Nat} {g : List Nat} (h0 : a ≠ 0) (hl : letB (a : Int) = false) (hd : isDig a = false) (hb : blaB (a : Int) = false) (hg : Gap g) (hh : ∃ b u, g = b :: u ∧ sgn a b = 1 ∧ (a ≠ 45 ∨ b ≠ 45)) : (It.mk [a] g 4 0).Good :=
  ⟨by simp, hg, fun r => by
    obtain ⟨b, u, rfl, _, h2⟩ := hh
    exact stop_of hb (by simpa using h2), fun R i r h => by
    obtain ⟨b, u, rfl, h1, _⟩ := hh
    exact rd_sign h h0 hl hd h1⟩
theorem It.sign2 {a b : Nat} {g : List Nat} (h0 : a ≠ 0) (hl : letB (a : Int) = false) (hd : isDig a = false) (hb : blaB (a : Int) = false) (hg : Gap g) (h2 : sgn a b = 2) (hne : a ≠ 45 ∨ b ≠ 45) : (It.mk [a, b] g 4 0).Good :=
  ⟨by simp, hg, fun r => stop_of hb (by simpa using hne), fun R i r h => rd_sign h h0 hl hd h2⟩
end Go.Proofs.YtndagbmcdpafjaaDoor
