/-
  The walk of the statements' comes. Conditions: the theorem's own premises.
-/
import Derived.Test.YtebijoipopiohaaQTxS
namespace Go.Proofs.Ytebijoipopiohaa
open Go.Shelf Go.RowKit Go.Lib
attribute [local go_sem] Oper.semAt_some

theorem nums_get : ∀ (i : Nat) (l : List (Nat × Nat)) (k : Nat) (x : Nat × Nat), (nums i l)[k]? = some x → x.1 = i + k ∧ ∃ d, l[k]? = some d ∧ x.2 = d.1
  | i, d :: t, 0, x, h => by simp [nums] at h; subst h; exact ⟨by simp, d, rfl, rfl⟩
  | i, d :: t, k + 1, x, h => by
    have := nums_get (i + 1) t k x (by simpa [nums] using h)
    exact ⟨by omega, by simpa using this.2⟩
/-- Is it the place and the rune of the piece that is due? -/
def dueB (s : ByteArray) (m : Nat) (x : Nat × Nat) : Prop := x.1 = m ∧ ∃ d, (pies 0 (pcs s.data.toList))[m]? = some d ∧ x.2 = d.2.1
theorem due_runs {s : ByteArray} {q : List (Nat × Nat)} {x : Nat × Nat} (h : q ++ [x] <+: runs s.data.toList) : dueB s q.length x := by
  obtain ⟨t, ht⟩ := h
  have e : (runs s.data.toList)[q.length]? = some x := by rw [← ht]; simp
  obtain ⟨h1, d, h2, h3⟩ := nums_get 0 _ _ _ e
  refine ⟨by omega, ?_⟩
  have hl : q.length < (pies 0 (pcs s.data.toList)).length := by rw [pies_length]; exact (List.getElem?_eq_some_iff.1 h2).1
  refine ⟨_, List.getElem?_eq_getElem hl, ?_⟩
  have := pies_get 0 _ _ _ (List.getElem?_eq_getElem hl)
  rw [h2] at this
  injection this with this
  rw [← this]
  exact h3

/-- What comes' loop has in its cells. -/
structure CmC (w : World) (n m : Nat) (A : Option Addr) (len c : Nat) (l : List (Nat × Nat × Nat)) (j : Nat) (W : World) : Prop where
  r : Boxed W n 4 (.bool false)
  p : Boxed W m 40 (.slice A len c)
  i : Boxed W (m + 1) 3 (.int .i64 (j : Int))
  rw : Rw LP W m A l
  bel : Below n w W
theorem CmC.grown {w W W' : World} {n m : Nat} {A : Option Addr} {len c : Nat} {l : List (Nat × Nat × Nat)} {j : Nat} {row : Option Nat} (h : CmC w n m A len c l j W) (hnm : n < m) (hg : W.grownBy W' row) (hr : ∀ r, row = some r → m + 2 ≤ r) : CmC w n m A len c l j W' := by
  have hc := h.i.lt
  exact ⟨h.r.kept hg (fun e => by have := hr _ e.symm; omega), h.p.kept hg (fun e => by have := hr _ e.symm; omega), h.i.kept hg (fun e => by have := hr _ e.symm; omega),
    h.rw.below ((Below.refl m W).grown hg (by omega) (fun r e => by have := hr _ e; omega)), h.bel.grown hg (by have := h.r.lt; omega) (fun r e => by have := hr _ e; omega)⟩
theorem CmC.setI {w W : World} {n m : Nat} {A : Option Addr} {len c : Nat} {l : List (Nat × Nat × Nat)} {j : Nat} (h : CmC w n m A len c l j W) (hnm : n < m) (b : Nat) : CmC w n m A len c l b (W.setCell ⟨m + 1, 0, none⟩ (.int .i64 (b : Int))) :=
  ⟨h.r.kept (grownBy_setCell' _ _ _) (by simp; omega), h.p.kept (grownBy_setCell' _ _ _) (by simp), h.i.set _,
    h.rw.below ((Below.refl m W).grown (grownBy_setCell' _ _ _) (by have := h.p.lt; omega) (fun r e => by cases e; omega)), h.bel.grown (grownBy_setCell' _ _ _) (by have := h.r.lt; omega) (fun r e => by cases e; omega)⟩
/-- It has been left: the answer is no. -/
structure CmX (w : World) (s : ByteArray) (n : Nat) (c : Code) (pre : List (Nat × Nat)) (W : World) : Prop where
  ret : c = .ret
  not : ∃ q x, pre = q ++ [x] ∧ ¬ dueB s q.length x
  r : Boxed W n 4 (.bool false)
  bel : Below n w W

set_option maxRecDepth 100000 in
set_option maxHeartbeats 4000000 in
theorem comes_any (s : ByteArray) (w : World) (hs : s.size ≤ 1000000) : Calls Try.prog 10 #[.string s] w (RetN w true) := by
  have HP := Lib.hid (fun W => pieces_any s W (by omega))
  have hN : (runs s.data.toList).length ≤ 1000000 := by
    have h1 := runs_length s.data.toList
    have h2 := pcs_len s.data.toList
    simp at h2
    omega
  refine (callsIn_wide (n := 3)).1 ?_
  refine callsIn_of_wp_marks Try.func10 rfl trivial ?_ rfl
  simp only [Try.ntmps10, List.size_toArray, List.length_cons, List.length_nil, Nat.reduceAdd, Nat.reduceSub, Array.replicate_succ, Array.replicate_zero, List.push_toArray, List.append_toArray, List.nil_append, List.cons_append]
  refine wpIn_wide.2 ?_
  go_wp2_with fail
  refine (HP.out _).mono ?_
  rintro e w1 ⟨v, rfl, ho, hB1⟩
  obtain ⟨A, c, rfl, hrw, -, hlc, hcm, -⟩ := ho.rw
  have hb1 := (Boxed.new w 4 (.bool false))
  have hb1' : Boxed w1 w.heap.size 4 (.bool false) := (hB1.block _ (by simp)).trans hb1
  have hBw1 : Below w.heap.size w w1 := ((Below.refl _ w).alloc (Nat.le_refl _) _).trans (hB1.mono (by simp))
  have hsz1 : w.heap.size < w1.heap.size := by have := hB1.size; simp at this; omega
  have hpl : (pies 0 (pcs s.data.toList)).length = (runs s.data.toList).length := by rw [pies_length, runs_length]
  obtain ⟨len, hlen⟩ : ∃ len, len = (pies 0 (pcs s.data.toList)).length := ⟨_, rfl⟩
  rw [← hlen]
  obtain ⟨m, hm⟩ : ∃ m, m = w1.heap.size := ⟨_, rfl⟩
  have HM := Lib.hid hm
  have HLen := Lib.hid hlen
  have hlenN : len = (runs s.data.toList).length := by omega
  have HLN := Lib.hid hlenN
  have hlen6 : len ≤ 1000000 := by omega
  have HX := Lib.hid (And.intro hb1' (And.intro hBw1 (And.intro hsz1 hrw)))
  clear hb1 hb1' hBw1 hsz1 hrw ho hB1 hpl hlen hm hlenN HP hlc hcm
  go_wp2_with fail
  refine (runes_mk s _).mono ?_
  rintro e w5 ⟨rfl, rfl⟩
  go_wp2_with fail
  obtain ⟨hb1', hBw1, hsz1, hrw⟩ := HX.out
  have hB4 : Below w1.heap.size w1 (((w1.alloc (.cells #[.slice A len c] 40)).alloc (.cells #[.int .i64 0] 3)).alloc (.cells #[.string s] 9)) := (((Below.refl _ w1).alloc (Nat.le_refl _) _).alloc (by simp) _).alloc (by simp; omega) _
  have hz4 : (((w1.alloc (.cells #[.slice A len c] 40)).alloc (.cells #[.int .i64 0] 3)).alloc (.cells #[.string s] 9)).heap.size = w1.heap.size + 3 := by simp
  have hb2 := Boxed.new w1 40 (.slice A len c)
  have hb3 := Boxed.new (w1.alloc (.cells #[.slice A len c] 40)) 3 (.int .i64 0)
  have hb4 := Boxed.new ((w1.alloc (.cells #[.slice A len c] 40)).alloc (.cells #[.int .i64 0] 3)) 9 (.string s)
  simp only [World.size_alloc] at hb3 hb4
  have hC0 : CmC w w.heap.size w1.heap.size A len c (pies 0 (pcs s.data.toList)) ([] : List (Nat × Nat)).length (((w1.alloc (.cells #[.slice A len c] 40)).alloc (.cells #[.int .i64 0] 3)).alloc (.cells #[.string s] 9)) :=
    ⟨(hB4.block _ hsz1).trans hb1', (hb2.alloc _).alloc _, hb3.alloc _, hrw.below hB4, hBw1.trans (hB4.mono (by omega))⟩
  have HST := Lib.hid (runes_stops 2 (by omega) (w1.heap.size + 1 + 1) s (by omega) _ (by rw [hz4]; omega) hb4.cell)
  have HC0 := Lib.hid hC0
  have HZ := Lib.hid hz4
  have HSz := Lib.hid hsz1
  clear hb2 hb3 hb4 hC0 hz4 hB4 hb1' hBw1 hsz1 hrw HX
  refine (wpIn_wide (n := 3)).1 ?_
  refine wpIn_rangeFunc_ownG rfl (by omega) (gf := 24) (lb := #[.pointer (some ⟨w1.heap.size + 1 + 1, 0, none⟩)]) rfl trivial (enters_of Try.func24 (by kernel_rfl) rfl) HST.out walksK_t walksK_b (Below.refl _ _) (fun _ => rfl)
    (fun pre W => CmC w w.heap.size w1.heap.size A len c (pies 0 (pcs s.data.toList)) pre.length W)
    (fun c pre W => CmX w s w.heap.size c pre W)
    (fun s A B row hs hg hr => hs.grown HSz.out hg fun r e => by have := (hr r e).1; rw [HZ.out] at this; omega)
    (fun c s A B row hs hg hr => by
      have hlt : ∀ r, row = some r → w.heap.size < r := fun r e => by have := (hr r e).1; rw [HZ.out] at this; have := HSz.out; omega
      exact ⟨hs.ret, hs.not, hs.r.kept hg (fun e => by have := hlt _ e.symm; omega), hs.bel.grown hg (by have := hs.r.lt; omega) (fun r e => by have := hlt _ e; omega)⟩)
    HC0.out
    (fun x => { tmps := #[.string s, undef, .pointer (some ⟨w.heap.size, 0, none⟩), .pointer (some ⟨w1.heap.size, 0, none⟩), .pointer (some ⟨w1.heap.size + 1, 0, none⟩), .int .i64 (x.1 : Int), .int .i32 (x.2 : Int), .string s, .slice A len c, .string s, .func (.func 24) #[] #[.pointer (some ⟨w1.heap.size + 1 + 1, 0, none⟩)], .int .i64 (x.1 : Int), .int .i32 (x.2 : Int), undef, undef, undef, undef, undef, undef, undef, undef, undef, undef, undef, undef, undef, undef, undef, undef, undef, undef, undef, undef, undef, undef, undef, undef], defers := [] }) ?assign ?body ?done ?stop
  case assign =>
    intro l x W K hK
    unfold runV
    gi_wp2
    exact hK
  case body =>
    rintro l pre ⟨xi, xr⟩ W hC hlen
    have hr := hC.r.cell
    have hrf := hC.r.frozen
    have hp := hC.p.cell
    have hi := hC.i.cell
    have hif := hC.i.frozen
    have hkl : pre.length < (pies 0 (pcs s.data.toList)).length := by rw [← HLen.out, HLN.out]; exact hlen
    obtain ⟨ad, hA, -, hcell⟩ := hC.rw.pick hkl
    subst hA
    have hc0 := hcell 0 _ rfl
    have hlen2 : pre.length < len := by rw [HLN.out]; exact hlen
    obtain ⟨d, hd⟩ : ∃ d, d = (pies 0 (pcs s.data.toList))[pre.length] := ⟨_, rfl⟩
    rw [← hd] at hc0
    have HD : Hid ((pies 0 (pcs s.data.toList))[pre.length]? = some d) := Lib.hid (by rw [hd]; exact List.getElem?_eq_getElem hkl)
    obtain ⟨k, hk⟩ : ∃ k, k = pre.length := ⟨_, rfl⟩
    have HK := Lib.hid hk
    rw [← hk] at hi hc0 hlen2 hC
    have hcc : W.cell? (ad.add (k * 4)) = some (.int .i32 (d.2.1 : Int)) := hc0
    have HC := Lib.hid hC
    clear hcell hd hk hC hkl hlen hc0
    by_cases h1 : xi = k
    · subst h1
      by_cases h2 : xr = d.2.1
      · subst h2
        have HF := Lib.hid (HC.out.setI HSz.out (xi + 1))
        gi_wp2
        exact ⟨(KeepsOthers.setCell _ _ _).from _, KeepsWalks.setCell _ _ _, by show CmC _ _ _ _ _ _ _ _ _; rw [List.length_append, List.length_singleton, ← HK.out]; exact HF.out⟩
      · have h2' : ((xr : Int) != (d.2.1 : Int)) = true := by simp; omega
        have HX : Hid (CmX w s w.heap.size .ret (pre ++ [(xi, xr)]) (W.setCell ⟨w.heap.size, 0, none⟩ (.bool false))) := Lib.hid ⟨rfl, ⟨pre, (xi, xr), rfl, fun ⟨_, d', h3, h4⟩ => h2 (by rw [HD.out] at h3; cases h3; exact h4)⟩, HC.out.r.set _, HC.out.bel.grown (grownBy_setCell' _ _ _) (by have := HC.out.r.lt; omega) (fun r e => by cases e; omega)⟩
        clear h2
        gi_wp2
        exact ⟨(KeepsOthers.setCell _ _ _).from _, HX.out⟩
    · have h1' : ((xi : Int) != (k : Int)) = true := by simp; omega
      have HX : Hid (CmX w s w.heap.size .ret (pre ++ [(xi, xr)]) (W.setCell ⟨w.heap.size, 0, none⟩ (.bool false))) := Lib.hid ⟨rfl, ⟨pre, (xi, xr), rfl, fun ⟨h3, _⟩ => h1 (by rw [HK.out]; exact h3)⟩, HC.out.r.set _, HC.out.bel.grown (grownBy_setCell' _ _ _) (by have := HC.out.r.lt; omega) (fun r e => by cases e; omega)⟩
      clear h1
      gi_wp2
      exact ⟨(KeepsOthers.setCell _ _ _).from _, HX.out⟩
  case done =>
    rintro D ys W hD rfl hC hK
    rw [HZ.out] at hD
    have hDn : w.heap.size < D := by have := HSz.out; omega
    have hr := hC.r.cell
    have hrf := hC.r.frozen
    have hp := hC.p.cell
    have hi := hC.i.cell
    rw [← HLN.out] at hi
    have hK' := (KeepsOthers.setCell W ⟨w.heap.size, 0, none⟩ (.bool true)).same D _ hK rfl
    have hc5 := cell_kept (World.cell?_setCell_same' W ⟨w.heap.size, 0, none⟩ (.bool true) (by rw [hr]; rfl)) (grownBy_putObj' _ D (.deferred none)) (fun r e => by cases e; exact ⟨_, hK', rfl⟩)
    have HB : Hid (Below w.heap.size w ((W.setCell ⟨w.heap.size, 0, none⟩ (.bool true)).putObj D (.deferred none))) := Lib.hid ((hC.bel.grown (grownBy_setCell' _ _ _) (by have := hC.r.lt; omega) (fun r e => by cases e; omega)).trans (belowK_b (w := w) (Nat.le_refl _) _ D _ _ (by omega) hK' rfl rfl))
    have HK5 := Lib.hid hK'
    have HC5 := Lib.hid hc5
    clear hC hD hDn hK' hc5
    gi_wp2
    go_wp2
    have hc5 := HC5.out
    refine ⟨by simp, .inl ⟨_, _, rfl, run_takeDeferred HK5.out, ?_⟩⟩
    exact ⟨.bool true, by simp [results, Try.results10, go_sem, hc5], rfl, HB.out⟩
  case stop =>
    rintro D c pre W hD hpre hX hK
    exfalso
    obtain ⟨q, x, rfl, hn⟩ := hX.not
    exact hn (due_runs hpre)
end Go.Proofs.Ytebijoipopiohaa
