/-
  The walk of Line. Conditions: the theorem's own premises.
-/
import Derived.Test.YtebijoipopiohaaDoorQTxC
namespace Go.Proofs.YtebijoipopiohaaDoor
open Go.Shelf Go.RowKit Go.Lib
attribute [local go_sem] Oper.semAt_some

/-- A line and a column, a rune further. -/
def lcS (a : Nat × Nat) (x : Nat × Nat) : Nat × Nat := if x.2 = 10 then (a.1 + 1, 1) else (a.1, a.2 + 1)
/-- The line and the column behind these runes. -/
def lc (xs : List (Nat × Nat)) : Nat × Nat := xs.foldl lcS (1, 1)
theorem lc_snoc (xs : List (Nat × Nat)) (x : Nat × Nat) : lc (xs ++ [x]) = lcS (lc xs) x := by simp [lc]
theorem lcS_fst_le (a x : Nat × Nat) : (lcS a x).1 ≤ a.1 + 1 := by
  by_cases h : x.2 = 10
  · simp [lcS, h]
  · simp [lcS, h]
theorem lcS_snd_le (a x : Nat × Nat) : (lcS a x).2 ≤ a.2 + 1 := by
  by_cases h : x.2 = 10
  · simp [lcS, h]
  · simp [lcS, h]
theorem lc_le (xs : List (Nat × Nat)) : (lc xs).1 ≤ xs.length + 1 ∧ (lc xs).2 ≤ xs.length + 1 := by
  suffices ∀ n (xs : List (Nat × Nat)), xs.length = n → (lc xs).1 ≤ n + 1 ∧ (lc xs).2 ≤ n + 1 from this _ xs rfl
  intro n
  induction n with
  | zero => intro xs h; obtain rfl := List.eq_nil_of_length_eq_zero h; exact ⟨Nat.le_refl _, Nat.le_refl _⟩
  | succ n ih =>
    intro xs h
    obtain ⟨q, x, rfl⟩ : ∃ q x, xs = q ++ [x] := ⟨xs.dropLast, xs.getLast (by rintro rfl; simp at h), (List.dropLast_concat_getLast _).symm⟩
    have h1 := ih q (by simpa using h)
    have h2 := lcS_fst_le (lc q) x
    have h3 := lcS_snd_le (lc q) x
    rw [lc_snoc]
    omega
/-- What stands ahead of a place. -/
def ahead (pos : Int) (x : Nat × Nat) : Bool := decide ((x.1 : Int) < pos)
/-- The line and the column of a place. -/
def lnAt (s : ByteArray) (pos : Int) : Nat × Nat := lc ((runs s.data.toList).takeWhile (ahead pos))
theorem takeWhile_stop {α : Type} (p : α → Bool) (q : List α) (x : α) (t : List α) (h : ∀ y ∈ q, p y = true) (hx : p x = false) : (q ++ x :: t).takeWhile p = q := by
  induction q with
  | nil => simp [hx]
  | cons y q ih =>
    have := ih (fun z hz => h z (List.mem_cons_of_mem _ hz))
    simp [h y (by simp), this]
theorem takeWhile_all {α : Type} (p : α → Bool) (q : List α) (h : ∀ y ∈ q, p y = true) : q.takeWhile p = q := by
  induction q with
  | nil => rfl
  | cons y q ih =>
    have := ih (fun z hz => h z (List.mem_cons_of_mem _ hz))
    simp [h y (by simp), this]

/-- What Line's loop has in its three cells. -/
structure LnC (w : World) (n : Nat) (pos : Int) (a : Nat × Nat) (W : World) : Prop where
  p : Boxed W n 3 (.int .i64 pos)
  l : Boxed W (n + 1) 3 (.int .i64 (a.1 : Int))
  c : Boxed W (n + 1 + 1) 3 (.int .i64 (a.2 : Int))
  bel : Below n w W
theorem LnC.grown {w W W' : World} {n : Nat} {pos : Int} {a : Nat × Nat} {row : Option Nat} (h : LnC w n pos a W) (hg : W.grownBy W' row) (hr : ∀ r, row = some r → n + 3 ≤ r) : LnC w n pos a W' := by
  have hc := h.c.lt
  exact ⟨h.p.kept hg (fun e => by have := hr _ e.symm; omega), h.l.kept hg (fun e => by have := hr _ e.symm; omega), h.c.kept hg (fun e => by have := hr _ e.symm; omega), h.bel.grown hg (by have := h.p.lt; omega) (fun r e => by have := hr _ e; omega)⟩
theorem LnC.setC {w W : World} {n : Nat} {pos : Int} {a : Nat × Nat} (h : LnC w n pos a W) (b : Nat) : LnC w n pos (a.1, b) (W.setCell ⟨n + 1 + 1, 0, none⟩ (.int .i64 (b : Int))) :=
  ⟨h.p.kept (grownBy_setCell' _ _ _) (by simp; omega), h.l.kept (grownBy_setCell' _ _ _) (by simp), h.c.set _, h.bel.grown (grownBy_setCell' _ _ _) (by have := h.p.lt; omega) (fun r e => by cases e; omega)⟩
theorem LnC.setL {w W : World} {n : Nat} {pos : Int} {a : Nat × Nat} (h : LnC w n pos a W) (b : Nat) : LnC w n pos (b, a.2) (W.setCell ⟨n + 1, 0, none⟩ (.int .i64 (b : Int))) :=
  ⟨h.p.kept (grownBy_setCell' _ _ _) (by simp), h.l.set _, h.c.kept (grownBy_setCell' _ _ _) (by simp), h.bel.grown (grownBy_setCell' _ _ _) (by have := h.p.lt; omega) (fun r e => by cases e; omega)⟩

/-- What Line's loop knows between two rounds. -/
def LnI (w : World) (n : Nat) (pos : Int) (pre : List (Nat × Nat)) (W : World) : Prop := (∀ x ∈ pre, ahead pos x = true) ∧ LnC w n pos (lc pre) W
/-- It has been left. -/
def LnX (w : World) (n : Nat) (pos : Int) (c : Code) (pre : List (Nat × Nat)) (W : World) : Prop := c = .exit 0 ∧ ∃ q x, pre = q ++ [x] ∧ (∀ y ∈ q, ahead pos y = true) ∧ ahead pos x = false ∧ LnC w n pos (lc q) W
/-- It answers a line and a column. -/
def RetLn (w : World) (a : Nat × Nat) (e : Ending) (w' : World) : Prop := e = .returned (.tuple #[.int .i64 (a.1 : Int), .int .i64 (a.2 : Int)]) ∧ Below w.heap.size w w'

set_option maxRecDepth 100000 in
set_option maxHeartbeats 2000000 in
theorem line_any (s : ByteArray) (pos : Int) (w : World) (hs : s.size ≤ 4611686018427387904) : Calls Tryd.prog 10 #[.string s, .int .i64 pos] w (RetLn w (lnAt s pos)) := by
  have hN : (runs s.data.toList).length ≤ 4611686018427387904 := by
    have h1 := runs_length s.data.toList
    have h2 := pcs_len s.data.toList
    simp at h2
    omega
  refine (callsIn_wide (n := 3)).1 ?_
  refine callsIn_of_wp_marks Tryd.func10 rfl trivial ?_ rfl
  simp only [Tryd.ntmps10, List.size_toArray, List.length_cons, List.length_nil, Nat.reduceAdd, Nat.reduceSub, Array.replicate_succ, Array.replicate_zero, List.push_toArray, List.append_toArray, List.nil_append, List.cons_append]
  refine wpIn_wide.2 ?_
  go_wp2_with fail
  refine (runes_mk s _).mono ?_
  rintro e w5 ⟨rfl, rfl⟩
  go_wp2_with fail
  have hB4 : Below w.heap.size w ((((w.alloc (.cells #[.int .i64 pos] 3)).alloc (.cells #[.int .i64 1] 3)).alloc (.cells #[.int .i64 1] 3)).alloc (.cells #[.string s] 9)) := ((((Below.refl _ w).alloc (Nat.le_refl _) _).alloc (by simp) _).alloc (by simp; omega) _).alloc (by simp; omega) _
  have hz4 : ((((w.alloc (.cells #[.int .i64 pos] 3)).alloc (.cells #[.int .i64 1] 3)).alloc (.cells #[.int .i64 1] 3)).alloc (.cells #[.string s] 9)).heap.size = w.heap.size + 4 := by simp
  have hb1 := Boxed.new w 3 (.int .i64 pos)
  have hb2 := Boxed.new (w.alloc (.cells #[.int .i64 pos] 3)) 3 (.int .i64 1)
  have hb3 := Boxed.new ((w.alloc (.cells #[.int .i64 pos] 3)).alloc (.cells #[.int .i64 1] 3)) 3 (.int .i64 1)
  have hb4 := Boxed.new (((w.alloc (.cells #[.int .i64 pos] 3)).alloc (.cells #[.int .i64 1] 3)).alloc (.cells #[.int .i64 1] 3)) 9 (.string s)
  simp only [World.size_alloc] at hb2 hb3 hb4
  have hc4 := hb4.cell
  have hC0 : LnC w w.heap.size pos (lc []) ((((w.alloc (.cells #[.int .i64 pos] 3)).alloc (.cells #[.int .i64 1] 3)).alloc (.cells #[.int .i64 1] 3)).alloc (.cells #[.string s] 9)) := ⟨((hb1.alloc _).alloc _).alloc _, (hb2.alloc _).alloc _, hb3.alloc _, hB4⟩
  have HST := Lib.hid (runes_stops 2 (by omega) (w.heap.size + 1 + 1 + 1) s hs _ (by rw [hz4]; omega) hc4)
  have HC0 := Lib.hid hC0
  have HZ := Lib.hid hz4
  clear hb1 hb2 hb3 hb4 hC0 hz4 hc4 hB4
  refine (wpIn_wide (n := 3)).1 ?_
  refine wpIn_rangeFunc_ownG rfl (by omega) (gf := 25) (lb := #[.pointer (some ⟨w.heap.size + 1 + 1 + 1, 0, none⟩)]) rfl trivial (enters_of Tryd.func25 (by kernel_rfl) rfl) HST.out walksK_t walksK_b (Below.refl _ _) (fun _ => rfl)
    (fun pre W => LnI w w.heap.size pos pre W)
    (fun c pre W => LnX w w.heap.size pos c pre W)
    (fun s A B row hs hg hr => ⟨hs.1, hs.2.grown hg fun r e => by have := (hr r e).1; rw [HZ.out] at this; omega⟩)
    (fun c s A B row hs hg hr => by
      obtain ⟨h1, q, x, h2, h3, h4, h5⟩ := hs
      exact ⟨h1, q, x, h2, h3, h4, h5.grown hg fun r e => by have := (hr r e).1; rw [HZ.out] at this; omega⟩)
    ⟨by simp, HC0.out⟩
    (fun x => { tmps := #[.string s, .int .i64 pos, undef, .pointer (some ⟨w.heap.size, 0, none⟩), .int .i64 0, .int .i64 0, .pointer (some ⟨w.heap.size + 1, 0, none⟩), .pointer (some ⟨w.heap.size + 1 + 1, 0, none⟩), .int .i64 (x.1 : Int), .int .i32 (x.2 : Int), .string s, .func (.func 25) #[] #[.pointer (some ⟨w.heap.size + 1 + 1 + 1, 0, none⟩)], .int .i64 (x.1 : Int), .int .i32 (x.2 : Int), undef, undef, undef, undef, undef, undef, undef, undef, undef, undef, undef], defers := [] }) ?assign ?body ?done ?stop
  case assign =>
    intro l x W K hK
    unfold runV
    gi_wp2
    exact hK
  case body =>
    rintro l pre ⟨xi, xr⟩ W ⟨hall, hC⟩ hlen
    have hle := lc_le pre
    obtain ⟨a, ha⟩ : ∃ a, a = lc pre := ⟨_, rfl⟩
    rw [← ha] at hC hle
    obtain ⟨a1, a2⟩ := a
    have hp := hC.p.cell
    have hl := hC.l.cell
    have hlf := hC.l.frozen
    have hc := hC.c.cell
    have hcf := hC.c.frozen
    have HC := Lib.hid hC
    have HA := Lib.hid ha
    have HAll := Lib.hid hall
    dsimp only at hle hl hc
    clear hC ha hall
    by_cases hx : pos ≤ (xi : Int)
    · gi_wp2
      exact ⟨KeepsFrom.refl _ _, rfl, pre, (xi, xr), rfl, HAll.out, by simp [ahead]; omega, by rw [← HA.out]; exact HC.out⟩
    · have hx' : (xi : Int) < pos := by omega
      have hin : ∀ y ∈ pre ++ [(xi, xr)], ahead pos y = true := by
        intro y hy
        rcases List.mem_append.1 hy with h | h
        · exact HAll.out y h
        · simp at h
          subst h
          simp [ahead]
          exact hx'
      have HIn := Lib.hid hin
      clear hin
      by_cases h10 : xr = 10
      · subst h10
        have hF : LnC w w.heap.size pos (lc (pre ++ [(xi, 10)])) (((W.setCell ⟨w.heap.size + 1 + 1, 0, none⟩ (.int .i64 ((a2 : Int) + 1))).setCell ⟨w.heap.size + 1, 0, none⟩ (.int .i64 ((a1 : Int) + 1))).setCell ⟨w.heap.size + 1 + 1, 0, none⟩ (.int .i64 1)) := by
          rw [lc_snoc, ← HA.out]
          exact ((HC.out.setC (a2 + 1)).setL (a1 + 1)).setC 1
        have HF := Lib.hid hF
        have hc1 := (HC.out.setC (a2 + 1)).l.cell
        have hc2 := (HC.out.setC (a2 + 1)).l.frozen
        have hc3 := ((HC.out.setC (a2 + 1)).setL (a1 + 1)).c.frozen
        have hc4 := ((HC.out.setC (a2 + 1)).setL (a1 + 1)).c.cell
        push_cast at hc1 hc2 hc3 hc4
        clear hF
        gi_wp2
        exact ⟨((KeepsOthers.setCell _ _ _).trans ((KeepsOthers.setCell _ _ _).trans (KeepsOthers.setCell _ _ _))).from _, (KeepsWalks.setCell _ _ _).trans ((KeepsWalks.setCell _ _ _).trans (KeepsWalks.setCell _ _ _)), HIn.out, HF.out⟩
      · have h10' : ((xr : Int) == 10) = false := beq_eq_false_iff_ne.2 (by omega)
        have hF : LnC w w.heap.size pos (lc (pre ++ [(xi, xr)])) (W.setCell ⟨w.heap.size + 1 + 1, 0, none⟩ (.int .i64 ((a2 : Int) + 1))) := by
          rw [lc_snoc, ← HA.out]
          simp only [lcS, h10, if_false]
          exact HC.out.setC (a2 + 1)
        have HF := Lib.hid hF
        clear hF
        gi_wp2
        exact ⟨(KeepsOthers.setCell _ _ _).from _, KeepsWalks.setCell _ _ _, HIn.out, HF.out⟩
  case done =>
    rintro D ys W hD rfl ⟨hall, hC⟩ hK
    rw [HZ.out] at hD
    have hq : lnAt s pos = lc (runs s.data.toList) := by unfold lnAt; rw [takeWhile_all _ _ hall]
    have hl := hC.l.cell
    have hc := hC.c.cell
    have hB := hC.bel
    have HB : Hid (RetLn w (lnAt s pos) (.returned (.tuple #[.int .i64 ((lc (runs s.data.toList)).1 : Int), .int .i64 ((lc (runs s.data.toList)).2 : Int)])) (W.drew.putObj D (.deferred none))) := Lib.hid ⟨by rw [hq], (hB.drew).trans (belowK_b (w := w) (Nat.le_refl _) W.drew D _ _ (by omega) hK rfl rfl)⟩
    obtain ⟨a, ha⟩ : ∃ a, a = lc (runs s.data.toList) := ⟨_, rfl⟩
    rw [← ha] at hl hc HB
    clear hq hC hall ha hB
    gi_wp2
    go_wp2
    go_region
    all_goals go_wp2
    all_goals
      refine ⟨by simp, .inl ⟨_, _, rfl, run_takeDeferred hK, ?_⟩⟩
      exact ⟨_, by simp [results, Tryd.results10, go_sem], HB.out⟩
  case stop =>
    rintro D c pre W hD hpre ⟨rfl, q, x, rfl, hall, hx, hC⟩ hK
    rw [HZ.out] at hD
    have hq : lnAt s pos = lc q := by
      obtain ⟨t, ht⟩ := hpre
      unfold lnAt
      rw [← ht, List.append_assoc]
      exact congrArg lc (takeWhile_stop _ q x t hall hx)
    have hl := hC.l.cell
    have hc := hC.c.cell
    have hB := hC.bel
    have HB : Hid (RetLn w (lnAt s pos) (.returned (.tuple #[.int .i64 ((lc q).1 : Int), .int .i64 ((lc q).2 : Int)])) (W.drew.putObj D (.deferred none))) := Lib.hid ⟨by rw [hq], (hB.drew).trans (belowK_b (w := w) (Nat.le_refl _) W.drew D _ _ (by omega) hK rfl rfl)⟩
    obtain ⟨a, ha⟩ : ∃ a, a = lc q := ⟨_, rfl⟩
    rw [← ha] at hl hc HB
    clear hq hC hall ha hB hpre hx
    gi_wp2
    go_wp2
    go_region
    all_goals go_wp2
    all_goals
      refine ⟨by simp, .inl ⟨_, _, rfl, run_takeDeferred hK, ?_⟩⟩
      exact ⟨_, by simp [results, Tryd.results10, go_sem], HB.out⟩
end Go.Proofs.YtebijoipopiohaaDoor
