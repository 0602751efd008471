/-
  The disk and the document's disk side by side, as plain data. Conditions: each theorem's own premises.
-/
import Derived.Test.YtgombgkfocpacaaDoorDkR5
namespace Go.Proofs.YtgombgkfocpacaaDoor
open Go.RowKit Go.Maps

/-- The two disks say the same. -/
structure Rl (s : DS) (r : RS) : Prop where
  n : r.n = s.kept.length
  calls : r.calls = s.calls
  pend : pairsB r.pend = s.pend
  down : r.down = s.down
  fuse : s.down = false → r.fuse = max s.armed 0
  f0 : 0 ≤ r.fuse ∧ r.fuse ≤ 9223372036854775807
  kok : OkP r.n (pairsB r.kept)
  kept : ∀ i : Nat, i < r.n → getP (i : Int) (pairsB r.kept) = s.kept.getD i none

theorem Rl.pow {s : DS} {r : RS} (h : Rl s r) : powN r.fuse r.down = powN s.armed s.down := by
  rw [h.down]
  cases hd : s.down
  · rw [h.fuse hd]
    unfold powN
    rw [Bool.false_or, Bool.false_or, Bool.eq_iff_iff]
    simp
    omega
  · rfl
theorem pow_fuse {s : DS} {r : RS} (h : Rl s r) (hn : powN s.armed s.down = false) : rpowF r.fuse r.down = max (powA s.armed) 0 := by
  have hd : s.down = false := by
    cases hd : s.down
    · rfl
    · rw [hd] at hn; cases hn
  have ha : s.armed ≠ 1 := by
    intro e
    rw [hd, e] at hn
    cases hn
  rw [h.down, hd, h.fuse hd]
  unfold rpowF powA
  rw [if_neg (by simp)]
  by_cases h0 : 0 < s.armed
  · rw [if_pos (by omega), if_pos h0]; omega
  · rw [if_neg (by omega), if_neg h0]
theorem rpow_bounds {f : Int} {d : Bool} (h : 0 ≤ f ∧ f ≤ 9223372036854775807) : 0 ≤ rpowF f d ∧ rpowF f d ≤ 9223372036854775807 := by
  unfold rpowF
  split
  · exact h
  · split <;> omega
theorem powA_bounds {a : Int} (h : -9223372036854775808 ≤ a ∧ a ≤ 9223372036854775807) : -9223372036854775808 ≤ powA a ∧ powA a ≤ 9223372036854775807 := by
  unfold powA
  split <;> omega
theorem Rl.fail {s : DS} {r : RS} (h : Rl s r) : Rl { s with armed := powA s.armed, down := powN s.armed s.down } { r with fuse := rpowF r.fuse r.down, down := powN r.fuse r.down } :=
  ⟨h.n, h.calls, h.pend, h.pow, fun hd => pow_fuse h hd, rpow_bounds h.f0, h.kok, h.kept⟩
theorem Rl.write {s : DS} {r : RS} (h : Rl s r) (hp : powN s.armed s.down = false) (p : Pend) {bs : List BV} (hb : pairsB bs = p) :
    Rl { s with pend := p, calls := s.calls + 1, armed := powA s.armed, down := false } { r with pend := bs, calls := r.calls + 1, fuse := rpowF r.fuse r.down, down := false } :=
  ⟨h.n, by show r.calls + 1 = s.calls + 1; rw [h.calls], hb, rfl, fun _ => pow_fuse h hp, rpow_bounds h.f0, h.kok, h.kept⟩
theorem getP_flushR {i : Int} : ∀ {p K : Pend} {n : Nat}, OkP n p → OkP n K → getP i (flushR K p) = match getP i p with | some b => some b | none => getP i K
  | [], _, _, _, _ => rfl
  | x :: r, K, n, hp, hK => by
    have hx := hp.2 x (List.mem_cons_self ..)
    show getP i (flushR (insP x.1 x.2 K) r) = match (if x.1 = i then some x.2 else getP i r) with | some b => some b | none => getP i K
    rw [getP_flushR hp.tail (OkP.ins hx.1 hx.2.1 hx.2.2 hK), getP_ins hK.1]
    by_cases e : x.1 = i
    · have hn : getP i r = none := getP_none fun y hy => by have := (List.pairwise_cons.1 hp.1).1 y hy; omega
      rw [hn, if_pos e, if_pos e]
    · rw [if_neg e, if_neg e]
theorem Rl.flush {s : DS} {r : RS} {n : Nat} (h : Rl s r) (hs : OkP n s.pend) (hn : n = s.kept.length) (hp : powN s.armed s.down = false) {bs : List BV} (hb : pairsB bs = flushR (pairsB r.kept) (pairsB r.pend)) (hok : OkP r.n (pairsB bs)) :
    Rl (flushD s) { r with kept := bs, pend := [], calls := r.calls + 1, fuse := rpowF r.fuse r.down, down := false } := by
  refine ⟨by show r.n = (flushK s).length; simp [flushK, h.n], by show r.calls + 1 = s.calls + 1; rw [h.calls], rfl, rfl, fun _ => pow_fuse h hp, rpow_bounds h.f0, hok, fun i hi => ?_⟩
  have hi' : i < r.n := hi
  rw [hb, getP_flushR (n := n) (by rw [h.pend]; exact hs) (by rw [hn, ← h.n]; exact h.kok), h.kept i hi', h.pend]
  have : (flushK s).getD i none = lookD s i := by simp [flushK, List.getD, show i < s.kept.length by rw [← h.n]; exact hi']
  show _ = (flushK s).getD i none
  rw [this]
  rfl
theorem crash_same {n : Nat} : ∀ {p : Pend} {zs : List Int} {K : List Sec} {R : Pend}, OkP n p → OkP n R → K.length = n → (∀ i : Nat, i < n → getP (i : Int) R = K.getD i none) → ∀ i : Nat, i < n → getP (i : Int) (crashR R p zs) = (crashK K p zs).getD i none
  | [], _, _, _, _, _, _, h => h
  | x :: r, zs, K, R, hp, hR, hl, h => by
    have hx := hp.2 x (List.mem_cons_self ..)
    show ∀ i : Nat, i < n → getP (i : Int) (crashR (if pk zs then insP x.1 x.2 R else R) r zs.tail) = (crashK (if pk zs then K.set x.1.toNat (some x.2) else K) r zs.tail).getD i none
    cases pk zs
    · exact crash_same hp.tail hR hl h
    · refine crash_same hp.tail (OkP.ins hx.1 hx.2.1 hx.2.2 hR) (by rw [if_pos rfl, List.length_set]; exact hl) fun i hi => ?_
      rw [if_pos rfl, if_pos rfl, getP_ins hR.1, sec_getD (by omega), h i hi]
      by_cases e : x.1 = (i : Int)
      · rw [if_pos e, if_pos (by omega)]
      · rw [if_neg e, if_neg (by omega)]
theorem Rl.crash {s : DS} {r : RS} {n : Nat} (h : Rl s r) (hs : OkP n s.pend) (hn : n = s.kept.length) (zs : List Int) {bs : List BV} (hb : pairsB bs = crashR (pairsB r.kept) (pairsB r.pend) zs) (hok : OkP r.n (pairsB bs)) :
    Rl (crashD s zs) { r with kept := bs, pend := [], fuse := 0, down := false } := by
  refine ⟨by show r.n = (crashK _ _ _).length; rw [crashK_length]; exact h.n, h.calls, rfl, rfl, fun _ => rfl, ⟨by show (0 : Int) ≤ 0; omega, by show (0 : Int) ≤ _; omega⟩, hok, fun i hi => ?_⟩
  have hi' : i < r.n := hi
  rw [hb, h.pend]
  exact crash_same hs (by rw [hn, ← h.n]; exact h.kok) hn.symm (fun j hj => h.kept j (by rw [h.n, ← hn]; exact hj)) i (by rw [hn, ← h.n]; exact hi')
theorem Rl.arm {s : DS} {r : RS} (h : Rl s r) (a : Int) (ha : -9223372036854775808 ≤ a ∧ a ≤ 9223372036854775807) : Rl { s with armed := a } { r with fuse := max a 0 } :=
  ⟨h.n, h.calls, h.pend, h.down, fun _ => rfl, ⟨by show 0 ≤ max a 0; omega, by show max a 0 ≤ _; omega⟩, h.kok, h.kept⟩
theorem Rl.look {s : DS} {r : RS} (h : Rl s r) (i : Nat) (hi : i < r.n) : lookR r (i : Int) = lookD s i := by
  unfold lookR lookD
  rw [h.pend, h.kept i hi]
  cases getP (i : Int) s.pend <;> rfl
theorem Rl.start (n : Nat) : Rl (newD n) ⟨n, 0, [], [], 0, false⟩ := by
  refine ⟨by simp [newD], rfl, rfl, rfl, fun _ => rfl, ⟨Int.le_refl _, by show (0 : Int) ≤ _; omega⟩, OkP.nil _, fun i hi => ?_⟩
  have hi' : i < n := hi
  show none = (List.replicate n none).getD i none
  rw [List.getD, List.getElem?_replicate, if_pos hi']
  rfl
theorem Rl.pok {s : DS} {r : RS} (h : Rl s r) (hs : OkP s.kept.length s.pend) : OkP r.n (pairsB r.pend) := by rw [h.pend, h.n]; exact hs
theorem Rl.plen {s : DS} {r : RS} (h : Rl s r) : r.pend.length = s.pend.length := by rw [← h.pend]; simp [pairsB]

/-- Numbers within their bounds, behind k things. -/
def PlB (k : Nat) (s : DS) : Prop := 0 ≤ s.calls ∧ s.calls ≤ (k : Int) ∧ -9223372036854775808 ≤ s.armed ∧ s.armed ≤ 9223372036854775807

/-- A thing that a disk is told, as it lies in four cells. -/
structure DoV where
  kind : Int
  n : Int
  A1 : Option Addr
  c1 : Nat
  l1 : List UInt8
  A2 : Option Addr
  c2 : Nat
  l2 : List Int
/-- The slice at A holds these things. -/
structure Dos (w : World) (A : Option Addr) (L : List DoV) : Prop where
  here : L ≠ [] → ∃ ad, A = some ad ∧ ad.block < w.heap.size ∧ ∀ j t, L[j]? = some t → w.cell? (ad.add (j * 4)) = some (.int .i64 t.kind) ∧ w.cell? ((ad.add (j * 4)).add 1) = some (.int .i64 t.n) ∧ w.cell? ((ad.add (j * 4)).add 2) = some (.slice t.A1 t.l1.length t.c1) ∧ w.cell? ((ad.add (j * 4)).add 3) = some (.slice t.A2 t.l2.length t.c2)
  each : ∀ t ∈ L, Str w w.heap.size t.A1 t.l1 ∧ Ints w w.heap.size t.A2 t.l2 ∧ -9223372036854775808 ≤ t.n ∧ t.n ≤ 9223372036854775807
theorem Dos.pick {w : World} {A : Option Addr} {L : List DoV} (h : Dos w A L) {k : Nat} (hk : k < L.length) : ∃ ad, A = some ad ∧ ad.block < w.heap.size ∧ w.cell? (ad.add (k * 4)) = some (.int .i64 L[k].kind) ∧ w.cell? ((ad.add (k * 4)).add 1) = some (.int .i64 L[k].n) ∧
    w.cell? ((ad.add (k * 4)).add 2) = some (.slice L[k].A1 L[k].l1.length L[k].c1) ∧ w.cell? ((ad.add (k * 4)).add 3) = some (.slice L[k].A2 L[k].l2.length L[k].c2) := by
  obtain ⟨ad, e, hb, hc⟩ := h.here (by intro h; subst h; simp at hk)
  exact ⟨ad, e, hb, hc k _ (List.getElem?_eq_getElem hk)⟩

theorem map_ne_blk {w : World} {m n g : Nat} {D : DataW Unit} {t : TypeId} {cs : Array Value} (h : w.ownsMap Tryd.prog 3 contR m n D) (hb : Blk w g t cs) : m ≠ g := by
  obtain ⟨es, clock, hm, _⟩ := h
  rintro rfl
  unfold Blk at hb
  rw [hb] at hm
  cases hm
/-- The two disks in memory, saying the same. -/
def Two (w : World) (g f x k : Nat) (W : World) : Prop :=
  ∃ (m : Nat) (s : DS) (r : RS), w.heap.size ≤ m ∧ Dk W g f m s ∧ Rf W [g, f, x] x r ∧ Rl s r ∧ PlB k s ∧ Below w.heap.size w W
/-- Where the loop over the things stands. -/
def PlR (w : World) (g f x n : Nat) (i : Value) (wr : World) : Prop := ∃ k : Nat, k ≤ n ∧ i = .int .i64 (k : Int) ∧ Two w g f x k wr
/-- Where the ways through the switch meet; the copy at h counts as before. -/
def PlCut (w : World) (g f x k h : Nat) (calls : Int) (W : World) : Prop := Two w g f x k W ∧ ∃ (f2 m2 n2 k2 : Nat) (a2 : Int) (d2 : Bool), Head W h f2 m2 n2 k2 calls a2 d2
theorem pl_fin {w W W' : World} {g f x k h m f6 m6 n6 k6 : Nat} {calls a6 : Int} {d6 : Bool} {s : DS} {r : RS} (hB : Below W.heap.size W W') (hm : w.heap.size ≤ m) (hD : Dk W g f m s) (hR : Rf W [g, f, x] x r) (hRl : Rl s r) (hPb : PlB k s) (hBl : Below w.heap.size w W) (hH : Head W h f6 m6 n6 k6 calls a6 d6) :
    PlCut w g f x k h calls W' := by
  have hF : Fr [] W W' := (Fr.refl [] W).belows hB (Nat.le_refl _)
  exact ⟨⟨m, s, r, hm, hD.fr hF (by simp) (by simp) (by simp), hR.fr hF (by simp) (Kp.of_below hB), hRl, hPb, hBl.trans (hB.mono hBl.size)⟩, f6, m6, n6, k6, a6, d6, Blk.fr hH hF (by simp)⟩
/-- Which error it is. -/
def errJ (p q : Bool) : Nat := if p then 18 else if q then 17 else 2
theorem errJ_lt (p q : Bool) : errJ p q < 21 := by cases p <;> cases q <;> decide
/-- Where the loop over the sectors stands. -/
def PlR2 (w : World) (g f x m : Nat) (s : DS) (r : RS) (i : Value) (wr : World) : Prop := ∃ q : Int, -1 ≤ q ∧ q ≤ 14 ∧ i = .int .i64 q ∧ Dk wr g f m s ∧ Rf wr [g, f, x] x r ∧ Below w.heap.size w wr
end Go.Proofs.YtgombgkfocpacaaDoor
