/-
  The disk in memory, and the walks of its small methods. Conditions: each theorem's own premises.
-/
import Derived.Test.YtmpklljiddggpaaGreatDoorQDkS
import Derived.Test.YtmpklljiddggpaaGreatDoorQBlk
import Derived.BigQuiet
import Derived.Lib.OthersKept
namespace Go.Proofs.YtmpklljiddggpaaGreatDoor
open Go.RowKit Go.Maps

/-- Nothing that lay there has turned but the blocks listed. -/
structure Fr (S : List Nat) (w w' : World) : Prop where
  os : w'.os = w.os
  tape : w'.tape = w.tape
  output : w'.output = w.output
  size : w.heap.size ≤ w'.heap.size
  block : ∀ k, k < w.heap.size → k ∉ S → w'.heap[k]? = w.heap[k]?
section
variable {S S' : List Nat} {w w' w'' : World}
theorem Fr.refl (S : List Nat) (w : World) : Fr S w w := ⟨rfl, rfl, rfl, Nat.le_refl _, fun _ _ _ => rfl⟩
theorem Fr.trans (h : Fr S w w') (k : Fr S' w' w'') (hs : ∀ x ∈ S', x ∈ S ∨ w.heap.size ≤ x) : Fr S w w'' :=
  ⟨k.os.trans h.os, k.tape.trans h.tape, k.output.trans h.output, Nat.le_trans h.size k.size, fun i hi hn =>
    (k.block i (Nat.lt_of_lt_of_le hi h.size) (fun hx => by rcases hs i hx with h1 | h1; exact hn h1; omega)).trans (h.block i hi hn)⟩
theorem Fr.set (h : Fr S w w') {p : Addr} (hp : p.block ∈ S ∨ w.heap.size ≤ p.block) (u : Value) : Fr S w (w'.setCell p u) :=
  ⟨h.os, h.tape, h.output, by simpa [World.setCell] using h.size, fun k hk hn => (Below.heap_setCell w' p u k (fun e => by rcases hp with h1 | h1; exact hn (e ▸ h1); omega)).trans (h.block k hk hn)⟩
theorem Fr.alloc (h : Fr S w w') (o : Obj) : Fr S w (w'.alloc o) :=
  ⟨h.os, h.tape, h.output, Nat.le_trans h.size (by simp), fun k hk hn => (Below.heap_alloc w' o k (Nat.lt_of_lt_of_le hk h.size)).trans (h.block k hk hn)⟩
theorem Fr.drew (h : Fr S w w') (n : Nat) : Fr S w (w'.drewN n) := ⟨h.os, h.tape, h.output, h.size, h.block⟩
theorem Fr.grown {r : Option Nat} (h : Fr S w w') (k : w'.grownBy w'' r) (hr : ∀ j, r = some j → j ∈ S ∨ w.heap.size ≤ j) : Fr S w w'' :=
  ⟨k.os.trans h.os, k.tape.trans h.tape, k.output.trans h.output, Nat.le_trans h.size k.size, fun i hi hn =>
    (k.block i (Nat.lt_of_lt_of_le hi h.size) (fun e => by rcases hr i e.symm with h1 | h1; exact hn h1; omega)).trans (h.block i hi hn)⟩
theorem Fr.belows {B : Nat} (h : Fr S w w') (k : Below B w' w'') (hB : w.heap.size ≤ B) : Fr S w w'' :=
  ⟨k.os.trans h.os, k.tape.trans h.tape, k.output.trans h.output, Nat.le_trans h.size k.size, fun i hi hn => (k.block i (Nat.lt_of_lt_of_le hi hB)).trans (h.block i hi hn)⟩
theorem Fr.below {B : Nat} (h : Fr S w w') (hB : B ≤ w.heap.size) (hS : ∀ x ∈ S, B ≤ x) : Below B w w' :=
  ⟨h.os, h.tape, h.output, h.size, fun k hk => h.block k (by omega) (fun hx => by have := hS k hx; omega)⟩
theorem Fr.more (h : Fr S w w') (hs : ∀ x ∈ S, x ∈ S' ∨ w.heap.size ≤ x) : Fr S' w w' :=
  ⟨h.os, h.tape, h.output, h.size, fun k hk hn => h.block k hk (fun hx => by rcases hs k hx with h1 | h1; exact hn h1; omega)⟩
theorem Blk.fr {g : Nat} {t : TypeId} {cs : Array Value} (h : Blk w g t cs) (f : Fr S w w') (hg : g ∉ S) : Blk w' g t cs := (f.block g h.lt hg).trans h
theorem Str.fr {B : Nat} {A : Option Addr} {l : List UInt8} (h : Str w B A l) (f : Fr S w w') (hB : B ≤ w.heap.size) (hS : ∀ x ∈ S, B ≤ x) : Str w' B A l :=
  h.keep fun p hp => World.cell?_of_block (f.block p.block (by omega) (fun hx => by have := hS _ hx; omega))
end

theorem Str.fr' {S : List Nat} {w w' : World} {B : Nat} {A : Option Addr} {l : List UInt8} (h : Str w B A l) (f : Fr S w w') (hB : B ≤ w.heap.size) (hS : ∀ ad, A = some ad → ad.block < B → ad.block ∉ S) : Str w' B A l :=
  ⟨fun hn => by
    obtain ⟨ad, rfl, hb, hc⟩ := h.here hn
    exact ⟨ad, rfl, hb, fun j u hu => (World.cell?_of_block (a := ad.add j) (f.block _ (by rw [add_block]; omega) (by rw [add_block]; exact hS ad rfl hb))).trans (hc j u hu)⟩⟩

/-- The two cells of a content. -/
def secB : Sec → Bool
  | none => false
  | some _ => true
def secS : Sec → List UInt8
  | none => []
  | some b => b
theorem secV_eq (x : Sec) : secV x = .agg #[.bool (secB x), .string ⟨(secS x).toArray⟩] := by cases x <;> rfl

/-- The row of the contents that were flushed. -/
def Row (w : World) (f : Nat) (kept : List Sec) : Prop :=
  ∃ cs : Array Value, Blk w f 84 cs ∧ ∀ i x, kept[i]? = some x → cs[i * 2]? = some (.bool (secB x)) ∧ cs[i * 2 + 1]? = some (.string ⟨(secS x).toArray⟩)

/-- The disk as plain data. -/
structure DS where
  kept : List Sec
  pend : Pend
  calls : Int
  armed : Int
  down : Bool

/-- The disk's fields. -/
def Head (w : World) (g f m n c : Nat) (calls armed : Int) (down : Bool) : Prop :=
  Blk w g 62 #[.slice (some ⟨f, 0, none⟩) n c, .map (some m), .int .i64 calls, .int .i64 armed, .bool down]

/-- A disk at block g, its contents at block f, its map at block m. -/
structure Dk (w : World) (g f m : Nat) (s : DS) : Prop where
  head : ∃ c, Head w g f m s.kept.length c s.calls s.armed s.down ∧ s.kept.length ≤ c ∧ c ≤ maxLen
  row : Row w f s.kept
  map : w.ownsMap Tryz.prog 3 contR m s.pend.length (toD s.pend)
  ok : OkP s.kept.length s.pend
  n1 : 1 ≤ s.kept.length
  nm : s.kept.length ≤ 16384
  small : ∀ x ∈ s.kept, (secS x).length ≤ 128
  fg : f ≠ g
section
variable {w w' : World} {g f m : Nat} {s : DS} {S : List Nat}
theorem Row.lt {kept : List Sec} (h : Row w f kept) : f < w.heap.size := by obtain ⟨cs, h, _⟩ := h; exact h.lt
theorem Row.fr {kept : List Sec} (h : Row w f kept) (k : Fr S w w') (hf : f ∉ S) : Row w' f kept := by
  obtain ⟨cs, h, h2⟩ := h
  exact ⟨cs, h.fr k hf, h2⟩
theorem owns_fr {n b : Nat} {D : DataW Unit} (h : w.ownsMap Tryz.prog 3 contR b n D) (k : Fr S w w') (hb : b ∉ S) : w'.ownsMap Tryz.prog 3 contR b n D := by
  have hlt := h.lt
  obtain ⟨es, clock, hb', F, hs, hD⟩ := h
  exact ⟨es, clock, (k.block b hlt hb).trans hb', F, hs, hD⟩
theorem Dk.gl (h : Dk w g f m s) : g < w.heap.size := by obtain ⟨c, h, _⟩ := h.head; exact Blk.lt h
theorem Dk.fl (h : Dk w g f m s) : f < w.heap.size := h.row.lt
theorem Dk.ml (h : Dk w g f m s) : m < w.heap.size := h.map.lt
theorem Dk.mg (h : Dk w g f m s) : m ≠ g := by
  obtain ⟨c, h1, _⟩ := h.head
  obtain ⟨es, clock, hb, _⟩ := h.map
  intro e
  subst e
  unfold Head Blk at h1
  rw [h1] at hb
  cases hb
theorem Dk.mf (h : Dk w g f m s) : m ≠ f := by
  obtain ⟨cs, h1, _⟩ := h.row
  obtain ⟨es, clock, hb, _⟩ := h.map
  intro e
  subst e
  unfold Blk at h1
  rw [h1] at hb
  cases hb
theorem Dk.fr (h : Dk w g f m s) (k : Fr S w w') (hg : g ∉ S) (hf : f ∉ S) (hm : m ∉ S) : Dk w' g f m s := by
  obtain ⟨⟨c, h1, h2⟩, h3, h4, h5, h6, h7, h8, h9⟩ := h
  exact ⟨⟨c, Blk.fr h1 k hg, h2⟩, h3.fr k hf, owns_fr h4 k hm, h5, h6, h7, h8, h9⟩
end
theorem own_tight {w : World} {b n : Nat} {D : DataW Unit} (h : w.ownsMap Tryz.prog 3 contR b n D) : w.ownsMap Tryz.prog 3 contR b (Maps.size D) D := by
  obtain ⟨es, clock, hb, F, hs, rfl⟩ := h
  exact ⟨es, clock, hb, F, by simp [Maps.size, length_sorted], rfl⟩

/-! ### the small methods -/
/-- What a call of Write or Flush does to the fuse. -/
def powA (a : Int) : Int := if 0 < a then a - 1 else a
/-- Has it no power? -/
def powN (a : Int) (dn : Bool) : Bool := dn || decide (a = 1)

set_option maxRecDepth 100000 in
theorem powered_head (g f m n c : Nat) (calls armed : Int) (down : Bool) (w : World) (h : Head w g f m n c calls armed down) (ha : -9223372036854775808 ≤ armed ∧ armed ≤ 9223372036854775807) :
    Calls Tryz.prog 76 #[.pointer (some ⟨g, 0, none⟩)] w fun e w' =>
      e = .returned (.bool (!powN armed down)) ∧ Head w' g f m n c calls (powA armed) (powN armed down) ∧ Fr [g] w w' := by
  have c3 : w.cell? ⟨g, 3, none⟩ = some (.int .i64 armed) := Blk.cell h 3
  have c4 : w.cell? ⟨g, 4, none⟩ = some (.bool down) := Blk.cell h 4
  have z3 := Blk.free h 3
  have z4 := Blk.free h 4
  have hq : ∀ a : Int, (a - 1 == 0) = decide (a = 1) := fun a => by rw [Bool.eq_iff_iff]; simp; omega
  go_enter Tryz.func76, Tryz.ntmps76
  go_wp2
  · rename_i h0 h1
    go_ret
    subst h1
    refine ⟨rfl, ?_, ((Fr.refl [g] w).set (.inl (by simp)) _).set (.inl (by simp)) _⟩
    have := Blk.set (Blk.set h 3 (.int .i64 (armed - 1))) 4 (.bool true)
    simpa [powA, powN, h0, Head] using this
  · rename_i h0 h1
    go_ret
    have h1 : down = false := by simpa using h1
    subst h1
    refine ⟨by simp [powN], ?_, ((Fr.refl [g] w).set (.inl (by simp)) _).set (.inl (by simp)) _⟩
    have := Blk.set (Blk.set h 3 (.int .i64 (armed - 1))) 4 (.bool (armed - 1 == 0))
    simpa [powA, powN, h0, Head, hq] using this
  · rename_i h0
    go_ret
    have h1 : armed ≠ 1 := by omega
    refine ⟨by simp [powN, h1], ?_, Fr.refl _ _⟩
    simpa [powA, powN, show ¬ 0 < armed from by omega, h1] using h

set_option maxRecDepth 100000 in
theorem has_head (g f m n c : Nat) (calls armed i : Int) (down : Bool) (w : World) (h : Head w g f m n c calls armed down) :
    Calls Tryz.prog 77 #[.pointer (some ⟨g, 0, none⟩), .int .i64 i] w fun e w' => e = .returned (.bool (decide (0 ≤ i ∧ i < (n : Int)))) ∧ w' = w := by
  have c0 : w.cell? ⟨g, 0, none⟩ = some (.slice (some ⟨f, 0, none⟩) n c) := Blk.cell h 0
  go_enter Tryz.func77, Tryz.ntmps77
  go_wp2
  all_goals go_ret
  all_goals refine ⟨?_, rfl⟩
  all_goals simp_all
  all_goals omega

/-- A pick that is odd. -/
def oddI (i : Int) : Bool := bits BinOp.and IntKind.i64 i 1 == 1
set_option maxRecDepth 100000 in
theorem odd_any (i : Int) (w : World) : Calls Tryz.prog 34 #[.int .i64 i] w fun e w' => e = .returned (.bool (oddI i)) ∧ w' = w := by
  go_enter Tryz.func34, Tryz.ntmps34
  go_wp2
  go_ret
  exact ⟨rfl, rfl⟩

set_option maxRecDepth 100000 in
theorem settle_head (g f m n c : Nat) (calls armed : Int) (down : Bool) (w : World) (h : Head w g f m n c calls armed down) :
    Calls Tryz.prog 35 #[.pointer (some ⟨g, 0, none⟩)] w fun e w' => e = .returned (.tuple #[]) ∧ Head w' g f w.heap.size n c calls armed down ∧ w'.ownsMap Tryz.prog 3 contR w.heap.size 0 (toD []) ∧ Fr [g] w w' := by
  have hmm := @run_makeMap Tryz.prog
  have hlt := Blk.lt h
  have c1 : w.cell? ⟨g, 1, none⟩ = some (.map (some m)) := Blk.cell h 1
  have z1 := Blk.free h 1
  go_enter Tryz.func35, Tryz.ntmps35
  go_wp2
  go_end0
  refine ⟨rfl, Blk.alloc (Blk.set h 1 (.map (some w.heap.size))) _, ?_, ((Fr.refl [g] w).set (.inl (by simp)) _).alloc _⟩
  have := World.ownsMap_made (w.setCell ⟨g, 1, none⟩ (.map (some w.heap.size))) Tryz.prog 3 contR
  simpa [World.setCell, toD] using this

theorem arm_head (g f m n c : Nat) (calls armed a : Int) (down : Bool) (w : World) (h : Head w g f m n c calls armed down) :
    Calls Tryz.prog 8 #[.pointer (some ⟨g, 0, none⟩), .int .i64 a] w fun e w' => e = .returned (.tuple #[]) ∧ Head w' g f m n c calls a down ∧ Fr [g] w w' := by
  have c3 : w.cell? ⟨g, 3, none⟩ = some (.int .i64 armed) := Blk.cell h 3
  have z3 := Blk.free h 3
  go_enter Tryz.func8, Tryz.ntmps8
  go_wp2
  go_end0
  exact ⟨rfl, Blk.set h 3 _, (Fr.refl [g] w).set (.inl (by simp)) _⟩

section
variable (g f m n c : Nat) (calls armed : Int) (down : Bool) (w : World) (h : Head w g f m n c calls armed down)
include h
theorem down_head : Calls Tryz.prog 12 #[.pointer (some ⟨g, 0, none⟩)] w fun e w' => e = .returned (.bool down) ∧ w' = w := by
  have c4 : w.cell? ⟨g, 4, none⟩ = some (.bool down) := Blk.cell h 4
  go_enter Tryz.func12, Tryz.ntmps12
  go_wp2
  go_ret
  exact ⟨rfl, rfl⟩
theorem sectors_head : Calls Tryz.prog 74 #[.pointer (some ⟨g, 0, none⟩)] w fun e w' => e = .returned (.int .i64 (n : Int)) ∧ w' = w := by
  have c0 : w.cell? ⟨g, 0, none⟩ = some (.slice (some ⟨f, 0, none⟩) n c) := Blk.cell h 0
  go_enter Tryz.func74, Tryz.ntmps74
  go_wp2
  go_ret
  exact ⟨rfl, rfl⟩
end

theorem infoC : (Tryz.prog.info? 84).map (fun i => (i.zero, i.size, i.bytes)) = some (some (.agg #[.bool false, .string ⟨#[]⟩]), 2, 24) := by kernel_rfl
/-- A new row of contents. -/
def zeroRow (n : Nat) : Array Value := madeCells #[.bool false, .string ⟨#[]⟩] (n * 2)
theorem make_row (n : Nat) (w : World) (h : n ≤ 16384) : (Instr.makeSlice 59 (.int .i64 (n : Int)) (.int .i64 (n : Int))).run Tryz.prog w = .ok (.slice (some ⟨w.heap.size, 0, none⟩) n n) (w.alloc (.cells (zeroRow n) 84)) := by
  obtain ⟨i, hi, hz, hs, hb⟩ := info_parts infoC
  have := run_make (P := Tryz.prog) w 59 84 i _ Tryz.underlying59 hi hz .i64 .i64 (n : Int) (n : Int) (by omega) (by omega) (by rw [hb]; omega) (by omega)
  rw [this, hs]
  rfl
theorem made_cell (z : Array Value) (n j : Nat) (h : j < n) : (madeCells z n)[j]? = some z[j % z.size]! := by
  simp [madeCells, h]
theorem zero_row (w : World) (f n : Nat) (h : Blk w f 84 (zeroRow n)) : Row w f (List.replicate n none) := by
  refine ⟨_, h, fun i x hx => ?_⟩
  rw [List.getElem?_replicate] at hx
  split at hx
  · rename_i hi
    cases hx
    unfold zeroRow
    rw [made_cell _ _ _ (by omega), made_cell _ _ _ (by omega)]
    have e1 : i * 2 % 2 = 0 := by omega
    have e2 : (i * 2 + 1) % 2 = 1 := by omega
    exact ⟨by show some (#[Value.bool false, Value.string ⟨#[]⟩][i * 2 % 2]!) = _; rw [e1]; rfl, by show some (#[Value.bool false, Value.string ⟨#[]⟩][(i * 2 + 1) % 2]!) = _; rw [e2]; rfl⟩
  · cases hx

/-- A new disk. -/
def newD (n : Nat) : DS := ⟨List.replicate n none, [], 0, 0, false⟩
theorem newD_dk (w : World) (n : Nat) (h1 : 1 ≤ n) (h2 : n ≤ 16384) (f m g : Nat) (hf : Blk w f 84 (zeroRow n)) (hm : w.ownsMap Tryz.prog 3 contR m 0 (toD [])) (hg : Head w g f m n n 0 0 false) (hfg : f ≠ g) : Dk w g f m (newD n) := by
  have hl : (newD n).kept.length = n := by simp [newD]
  refine ⟨⟨n, by rw [hl]; exact hg, by omega, by simp [maxLen]; omega⟩, zero_row w f n hf, hm, OkP.nil _, by omega, by omega, ?_, hfg⟩
  intro x hx
  obtain rfl : x = none := by simpa [newD] using (List.mem_replicate.1 hx).2
  simp [secS]
/-- What New leaves where it makes a disk. -/
def RetNew (n : Nat) (w : World) (e : Ending) (w' : World) : Prop :=
  ∃ g f m, e = .returned (.tuple #[.pointer (some ⟨g, 0, none⟩), .nilIface]) ∧ w.heap.size ≤ g ∧ w.heap.size ≤ f ∧ w.heap.size ≤ m ∧ Dk w' g f m (newD n) ∧ Below w.heap.size w w'
theorem retNew (n : Nat) (w : World) (h1 : 1 ≤ n) (h2 : n ≤ 16384) : RetNew n w (.returned (.tuple #[.pointer (some ⟨w.heap.size + 1 + 1, 0, none⟩), .nilIface]))
    (((w.alloc (.cells (zeroRow n) 84)).alloc (.map #[] 0)).alloc (.cells #[.slice (some ⟨w.heap.size, 0, none⟩) n n, .map (some (w.heap.size + 1)), .int .i64 0, .int .i64 0, .bool false] 62)) := by
  have hm := World.ownsMap_made (w.alloc (.cells (zeroRow n) 84)) Tryz.prog 3 contR
  have e1 : (w.alloc (.cells (zeroRow n) 84)).heap.size = w.heap.size + 1 := by simp
  have e2 : ((w.alloc (.cells (zeroRow n) 84)).alloc (.map #[] 0)).heap.size = w.heap.size + 1 + 1 := by simp
  rw [e1] at hm
  refine ⟨w.heap.size + 1 + 1, w.heap.size, w.heap.size + 1, rfl, by omega, by omega, by omega, newD_dk _ n h1 h2 _ _ _ ?_ (hm.alloc _) ?_ (by omega), (((Below.refl _ w).alloc (Nat.le_refl _) _).alloc (by simp) _).alloc (by simp; omega) _⟩
  · exact Blk.alloc (Blk.alloc (heap_alloc_new w _) _) _
  · have := heap_alloc_new ((w.alloc (.cells (zeroRow n) 84)).alloc (.map #[] 0)) (.cells #[.slice (some ⟨w.heap.size, 0, none⟩) n n, .map (some (w.heap.size + 1)), .int .i64 0, .int .i64 0, .bool false] 62)
    rw [e2] at this
    exact this
set_option maxRecDepth 100000 in
set_option maxHeartbeats 400000 in
theorem new_ok (n : Nat) (w : World) (h1 : 1 ≤ n) (h2 : n ≤ 16384) : Calls Tryz.prog 22 #[.int .i64 (n : Int)] w (RetNew n w) := by
  have hmm := @run_makeMap Tryz.prog
  have ha : ¬ ((n : Int) < 1) := by omega
  have hb : ¬ ((16384 : Int) < n) := by omega
  have hk := fun W => make_row n W h2
  go_enter Tryz.func22, Tryz.ntmps22
  go_wp2
  go_ret2
  exact retNew n w h1 h2
end Go.Proofs.YtmpklljiddggpaaGreatDoor
