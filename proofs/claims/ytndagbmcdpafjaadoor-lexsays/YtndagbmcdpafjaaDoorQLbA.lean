/-
  What LexBad's loop over the tokens holds. Conditions: none.
-/
import Derived.Test.YtndagbmcdpafjaaDoorQWkLj
import Derived.Test.YtndagbmcdpafjaaDoorQLawLb
import Derived.Test.YtndagbmcdpafjaaDoorQDkSee
import Derived.Test.YtndagbmcdpafjaaDoorQNumb
namespace Go.Proofs.YtndagbmcdpafjaaDoor
open Go.Shelf Go.RowKit Go.Lib
attribute [local go_sem] Oper.semAt_some

/-- An error's number among those that a text can have. -/
def cc (c : Nat) : Nat := if c = 2 then 2 else if c = 6 then 6 else 4
theorem cc_lt (c : Nat) : cc c < 21 := by
  unfold cc
  repeat' split
  all_goals omega
theorem cc_bd (k : Nat) : cc (bdE k) = bdE k := by unfold cc bdE; split <;> simp
theorem Lerr.cc {W : World} {er : Nat → Addr} (h : Lerr W er) : Lerr W (fun c => er (cc c)) := ⟨h.many, h.rune, h.numb, h.rng⟩
def bxC : List ByteArray := [⟨#[65]⟩, ⟨#[36]⟩, ⟨#[95, 97]⟩, ⟨#[195, 169]⟩, ⟨#[91]⟩, ⟨#[33, 61]⟩]
theorem bxC_bytes : ∀ k, k < 6 → (bxC.getD k ⟨#[]⟩).data.toList = encs (bdR.getD k []) := by decide
theorem bdR_last : ([97, 97, 97, 97, 97, 97, 97, 97, 97, 97, 97, 97, 97, 97, 97, 97, 97, 97, 97, 97, 97, 97, 97, 97, 97] : List UInt8) = encs (bdR.getD 6 []) := by decide
/-- What has come, in the loop's own words. -/
def stp (s : Nat × Int × Int × Bool) : Ev → Nat × Int × Int × Bool
  | .tok _ => (s.1 + 1, s.2)
  | .bad c p _ => (s.1, 101 + (cc c : Int), (p : Int), true)
def st (pre : List Ev) : Nat × Int × Int × Bool := pre.foldl stp (0, 0, 0, false)
theorem st_add (pre : List Ev) (x : Ev) : st (pre ++ [x]) = stp (st pre) x := by simp [st, List.foldl_append]
theorem st_le (pre : List Ev) : (st pre).1 ≤ pre.length := by
  suffices ∀ s : Nat × Int × Int × Bool, (pre.foldl stp s).1 ≤ s.1 + pre.length by have := this (0, 0, 0, false); simpa [st] using this
  induction pre with
  | nil => intro s; simp
  | cons x pre ih =>
    intro s
    have := ih (stp s x)
    have h : (stp s x).1 ≤ s.1 + 1 := by cases x <;> simp [stp]
    simp only [List.foldl_cons, List.length_cons]
    omega
theorem st_toks (L : List Tk) : st (L.map .tok) = (L.length, 0, 0, false) := by
  suffices ∀ s : Nat × Int × Int × Bool, (L.map Ev.tok).foldl stp s = (s.1 + L.length, s.2) by have := this (0, 0, 0, false); simpa [st] using this
  induction L with
  | nil => intro s; simp
  | cons x L ih =>
    intro s
    simp only [List.map_cons, List.foldl_cons, List.length_cons]
    rw [ih]
    simp [stp]
    omega
theorem came_some {l : List Tk} {c p : Nat} {q : List Ev} {t : Tk} (h : Came l (some (c, p)) (q ++ [.tok t])) : (st q).1 = q.length ∧ l[q.length]? = some t := by
  obtain ⟨ys, ⟨b, rfl⟩, hp⟩ := h
  obtain ⟨r, hr⟩ := hp
  have h1 : (l.map Ev.tok ++ [.bad c p b])[q.length]? = some (Ev.tok t) := by rw [← hr]; simp
  have hq : q.length < l.length := by
    refine Nat.lt_of_not_le fun hle => ?_
    rw [List.getElem?_append_right (by simpa using hle)] at h1
    cases hz : q.length - (l.map Ev.tok).length with
    | zero => rw [hz] at h1; cases h1
    | succ z => rw [hz] at h1; cases h1
  have hq2 : q = (l.take q.length).map .tok := by
    have := congrArg (List.take q.length) hr
    rw [List.append_assoc, List.take_left, List.take_append_of_le_length (by simpa using Nat.le_of_lt hq)] at this
    rw [this, List.map_take]
    simp [Nat.min_eq_left (Nat.le_of_lt hq)]
  refine ⟨?_, ?_⟩
  · rw [hq2, st_toks]
    simp
  · rw [List.getElem?_append_left (by simpa using hq), List.getElem?_map] at h1
    cases hl : l[q.length]? with
    | none => rw [hl] at h1; cases h1
    | some x => rw [hl] at h1; simp at h1; rw [h1]
def set5 (W : World) (g : Nat) (c p : Int) (a : Bool) : World := ((((W.setCell ⟨g, 0, none⟩ (.int .i64 c)).setCell ⟨g, 1, none⟩ (.bool a)).setCell ⟨g, 2, none⟩ (.bool false)).setCell ⟨g, 3, none⟩ (.int .i64 p)).setCell ⟨g, 4, none⟩ (.int .i64 0)
abbrev Blk5 (W : World) (g : Nat) (c p : Int) (a : Bool) : Prop := Blk W g 30 #[.int .i64 c, .bool a, .bool false, .int .i64 p, .int .i64 0]
theorem set5_blk {W : World} {g : Nat} {c p : Int} {a : Bool} (h : Blk5 W g c p a) (c' p' : Int) (a' : Bool) : Blk5 (set5 W g c' p' a') g c' p' a' := ((((h.set 0 (.int .i64 c')).set 1 (.bool a')).set 2 (.bool false)).set 3 (.int .i64 p')).set 4 (.int .i64 0)
theorem set5_far {W : World} {g b : Nat} {t : TypeId} {cs : Array Value} (h : Blk W b t cs) (hb : b ≠ g) (c p : Int) (a : Bool) : Blk (set5 W g c p a) b t cs := ((((h.far hb _).far hb _).far hb _).far hb _).far hb _
theorem set5_below {w W : World} {B g : Nat} (h : Below B w W) (hg : B ≤ g) (c p : Int) (a : Bool) : Below B w (set5 W g c p a) := ((((h.setCell hg _).setCell hg _).setCell hg _).setCell hg _).setCell hg _
theorem set5_keeps {W : World} {g : Nat} (c p : Int) (a : Bool) (n : Nat) : KeepsFrom n W (set5 W g c p a) := (((((KeepsOthers.setCell _ _ _).trans (KeepsOthers.setCell _ _ _)).trans (KeepsOthers.setCell _ _ _)).trans (KeepsOthers.setCell _ _ _)).trans (KeepsOthers.setCell _ _ _)).from _
theorem KeepTok.setBlk {W : World} {w : World} {er : Nat → Addr} (hw : Lerr w er) {b : Nat} (hb : w.heap.size ≤ b) {t : TypeId} {cs : Array Value} (h : Blk W b t cs) (ht : t ≠ 21) (ht2 : t ≠ 37) (i : Nat) (v : Value) : KeepTok W (W.setCell ⟨b, i, none⟩ v) := by
  have hl := hw.lt
  refine KeepTok.of_grown (grownBy_setCell W b i v) fun k e => ?_
  cases e
  refine ⟨fun cs' hc => ?_, fun cs' hc => ?_, by omega, by omega, by omega, by omega⟩
  · have := (show W.heap[b]? = _ from h).symm.trans hc
    simp at this
    exact ht this.2
  · have := (show W.heap[b]? = _ from h).symm.trans hc
    simp at this
    exact ht2 this.2
theorem KeepTok.set5 {W : World} {w : World} {er : Nat → Addr} (hw : Lerr w er) {g : Nat} (hb : w.heap.size ≤ g) {c p : Int} {a : Bool} (h : Blk5 W g c p a) (c' p' : Int) (a' : Bool) : KeepTok W (set5 W g c' p' a') :=
  have h0 := h.set 0 (.int .i64 c')
  have h1 := h0.set 1 (.bool a')
  have h2 := h1.set 2 (.bool false)
  have h3 := h2.set 3 (.int .i64 p')
  ((((KeepTok.setBlk hw hb h (by decide) (by decide) 0 _).trans (KeepTok.setBlk hw hb h0 (by decide) (by decide) 1 _)).trans (KeepTok.setBlk hw hb h1 (by decide) (by decide) 2 _)).trans (KeepTok.setBlk hw hb h2 (by decide) (by decide) 3 _)).trans (KeepTok.setBlk hw hb h3 (by decide) (by decide) 4 _)
/-- What the loop over the tokens has in its cells. -/
structure LbC (w : World) (m g : Nat) (s : Nat × Int × Int × Bool) (W : World) : Prop where
  r : Boxed W w.heap.size 4 (.bool false)
  ci : Boxed W m 3 (.int .i64 (s.1 : Int))
  cf : Blk5 W g s.2.1 s.2.2.1 s.2.2.2
  bel : Below w.heap.size w W
theorem LbC.grown {w W W' : World} {m g : Nat} {s : Nat × Int × Int × Bool} {row : Option Nat} (h : LbC w m g s W) (hm : w.heap.size < m) (hmg : m < g) (hg : W.grownBy W' row) (hr : ∀ r, row = some r → g < r) : LbC w m g s W' := by
  have hl := h.cf.lt
  exact ⟨h.r.kept hg (fun e => by have := hr _ e.symm; omega), h.ci.kept hg (fun e => by have := hr _ e.symm; omega), h.cf.grown hg (fun e => by have := hr _ e.symm; omega), h.bel.grown hg (by omega) (fun r e => by have := hr r e; omega)⟩
theorem LbC.below {w W W' : World} {m g : Nat} {s : Nat × Int × Int × Bool} (h : LbC w m g s W) (hm : w.heap.size < m) (hmg : m < g) (hb : Below W.heap.size W W') : LbC w m g s W' := by
  have hl := h.cf.lt
  exact ⟨(hb.block _ h.r.lt).trans h.r, (hb.block _ h.ci.lt).trans h.ci, h.cf.below hb hl, h.bel.trans (hb.mono (by omega))⟩
theorem LbC.setF {w W : World} {m g : Nat} {s : Nat × Int × Int × Bool} (h : LbC w m g s W) (hm : w.heap.size < m) (hmg : m < g) (c p : Int) (a : Bool) : LbC w m g (s.1, c, p, a) (set5 W g c p a) :=
  ⟨set5_far (show Blk W w.heap.size _ _ from h.r) (by omega) c p a, set5_far (show Blk W m _ _ from h.ci) (by omega) c p a, set5_blk h.cf c p a, set5_below h.bel (by omega) c p a⟩
theorem LbC.setI {w W : World} {m g : Nat} {s : Nat × Int × Int × Bool} (h : LbC w m g s W) (hm : w.heap.size < m) (hmg : m < g) : LbC w m g (s.1 + 1, s.2) (W.setCell ⟨m, 0, none⟩ (.int .i64 ((s.1 : Int) + 1))) :=
  ⟨h.r.kept (grownBy_setCell' _ _ _) (by simp; omega), h.ci.set _, h.cf.grown (grownBy_setCell' _ _ _) (by simp; omega), h.bel.setCell (p := ⟨m, 0, none⟩) (by show _ ≤ m; omega) _⟩
def LbX (c : Code) (pre : List Ev) : Prop :=
  c = .ret ∧ ∃ q t, pre = q ++ [.tok t] ∧ (t.text ≠ [120] ∨ t.pos ≠ 2 * (st q).1)
end Go.Proofs.YtndagbmcdpafjaaDoor
