/-
  The walks of the printer's list over declarations, of equations that give one variable by an expression, of strings.Join of one text. Conditions: each theorem's own premises.
-/
import Derived.Test.YtpfehddkaapjiaaDoorQSwI
namespace Go.Proofs.YtpfehddkaapjiaaDoor
open Go.RowKit Go.Lib Go.Shelf
attribute [local go_sem] Oper.semAt_some

/-- Texts with another one between them, from a place on. -/
def jnL (sep : List UInt8) : Nat → List (List UInt8) → List UInt8
  | _, [] => []
  | i, t :: r => (if i = 0 then [] else sep) ++ t ++ jnL sep (i + 1) r
theorem jnL_step (sep : List UInt8) (l : List Dc) (X Y : List UInt8) (j : Nat) (hj : j < l.length) (h : X ++ jnL sep j ((l.drop j).map Dc.shw) = Y) :
    X ++ ((if j = 0 then [] else sep) ++ l[j].shw) ++ jnL sep (j + 1) ((l.drop (j + 1)).map Dc.shw) = Y := by
  rw [List.drop_eq_getElem_cons hj, List.map_cons, jnL] at h
  rw [← h]
  simp only [List.append_assoc]
/-- The bound method. -/
abbrev fmD (b : Nat) : Value := .func (.func 70) #[.pointer (some ⟨b, 0, none⟩)] #[]

set_option maxRecDepth 100000 in
set_option maxHeartbeats 1000000 in
theorem listD_any (b : Nat) (acc : List UInt8) (A : Option Addr) (c : Nat) (l : List Dc) (w : World) (h : PrA b acc w) (hD : Dl w (· < b) A c l) (hlen : acc.length + (jnL [59, 32] 0 (l.map Dc.shw)).length ≤ 140737488355328) :
    Calls Tryd.prog 107 #[.pointer (some ⟨b, 0, none⟩), .slice A l.length c, .string { data := #[59, 32] }, fmD b] w fun r w' => r = .returned (.tuple #[]) ∧ Wr b (acc ++ jnL [59, 32] 0 (l.map Dc.shw)) w w' := by
  have hbw := h.lt
  have HP := Lib.hid h
  have HD := Lib.hid hD
  have HLe := Lib.hid hlen
  obtain ⟨len, hln⟩ : ∃ len, len = l.length := ⟨_, rfl⟩
  rw [← hln]
  have HL := Lib.hid hln
  have hlc : len ≤ c := by rw [hln]; exact hD.sl.hd.le
  have hcm : c ≤ 9223372036854775807 := by have := hD.sl.hd.big; simpa [maxLen] using this
  clear h hD hlen hln
  go_enter Tryd.func107, Tryd.ntmps107
  go_wp2_with fail
  go_loopw [12] (fun i wr => ∃ (j : Nat) (X : List UInt8), j ≤ len ∧ i = .int .i64 (j : Int) ∧ X ++ jnL [59, 32] j ((l.drop j).map Dc.shw) = jnL [59, 32] 0 (l.map Dc.shw) ∧ Wr b (acc ++ X) w wr) (fun i _ => len - (RowKit.intOf i).toNat)
  case atStart => exact ⟨0, [], Nat.zero_le _, rfl, by simp, by simpa using HP.out.refl⟩
  case round =>
    obtain ⟨j, X, hj, rfl, hX, hW⟩ := hrel
    by_cases hp : j < len
    · have hjl : j < l.length := by rw [← HL.out]; exact hp
      have hDw := HD.out.below hW.bel
      obtain ⟨bb, oo, rfl, hbb⟩ := hDw.sl.hd.at_ (by omega)
      obtain ⟨d, hd⟩ : ∃ d, d = l[j] := ⟨_, rfl⟩
      have c0 : wr.cell? ⟨bb, oo + j * 4, none⟩ = some (.int .i64 d.pos) := by rw [hd]; exact hDw.sl.at_ hjl 0 _ (by decide) rfl
      have c1 : wr.cell? ⟨bb, oo + j * 4 + 1, none⟩ = some (.string ⟨d.name.toArray⟩) := by rw [hd]; exact hDw.sl.at_ hjl 1 _ (by decide) rfl
      have c2 : wr.cell? ⟨bb, oo + j * 4 + 2, none⟩ = some (.int .i64 d.type) := by rw [hd]; exact hDw.sl.at_ hjl 2 _ (by decide) rfl
      have c3 : wr.cell? ⟨bb, oo + j * 4 + 3, none⟩ = some (.slice d.A d.cks.length d.c) := by rw [hd]; exact hDw.sl.at_ hjl 3 _ (by decide) rfl
      have hdl : Sl LC wr (· < b) d.A d.c d.cks := by rw [hd]; exact hDw.all _ (List.getElem_mem hjl)
      have hS := jnL_step [59, 32] l X _ j hjl hX
      rw [← hd] at hS
      have hbd := congrArg List.length hS
      simp only [List.length_append] at hbd
      have HS := Lib.hid hS
      obtain ⟨W3, hW3⟩ : ∃ W3, W3 = wr.alloc (.cells #[.int .i64 d.pos, .string ⟨d.name.toArray⟩, .int .i64 d.type, .slice d.A d.cks.length d.c] 26) := ⟨_, rfl⟩
      have h3 : Wr b (acc ++ X) wr W3 := by rw [hW3]; exact Wr.ofAlloc hW.pr _
      have hb3 : Blk W3 wr.heap.size 26 #[.int .i64 d.pos, .string ⟨d.name.toArray⟩, .int .i64 d.type, .slice d.A d.cks.length d.c] := by rw [hW3]; exact heap_alloc_new wr _
      have hz3 : W3.heap.size = wr.heap.size + 1 := by rw [hW3]; simp
      have hbr : b < wr.heap.size := hW.pr.lt
      have HW3 := Lib.hid (hW.trans h3)
      have Hb3 := Lib.hid hb3
      have HP3 := Lib.hid h3.pr
      have HD3 := Lib.hid (hdl.below h3.bel)
      have HB : Hid (acc.length + X.length + (if j = 0 then ([] : List UInt8) else [59, 32]).length + d.shw.length ≤ 140737488355328) := Lib.hid (by have := HLe.out; omega)
      have hbr2 := Lib.hid hbr
      clear hX hW hDw hbb hd hdl hS hbd h3 hbr hbw
      by_cases hj0 : j = 0
      · subst hj0
        rw [if_pos rfl] at HB HS
        simp only [Nat.zero_mul, Nat.add_zero] at c0 c1 c2 c3
        obtain ⟨m0, m1, m2, m3⟩ : W3.cell? ⟨wr.heap.size, 0, none⟩ = _ ∧ W3.cell? ⟨wr.heap.size, 1, none⟩ = _ ∧ W3.cell? ⟨wr.heap.size, 2, none⟩ = _ ∧ W3.cell? ⟨wr.heap.size, 3, none⟩ = _ := ⟨hb3.cell 0, hb3.cell 1, hb3.cell 2, hb3.cell 3⟩
        have HC := Lib.hid (decl_any b _ d W3 HP3.out HD3.out (by have := HB.out; simp only [List.length_append, List.length_nil] at this ⊢; omega))
        unfold Dc.val at HC
        clear hb3 HB
        subst hW3
        go_wp2_with fail
        refine HC.out.mono ?_
        rintro e w4 ⟨rfl, h4⟩
        have HWn := Lib.hid (HW3.out.trans h4)
        clear h4 HC
        go_wp2
        go_roundw
        case rel => exact ⟨1, X ++ ([] ++ d.shw), by omega, by go_num, HS.out, by rw [List.nil_append, ← List.append_assoc]; exact HWn.out⟩
        case measure => simp [RowKit.intOf]; omega
      · have hj1 : (0 : Int) < (j : Int) := by omega
        rw [if_neg hj0] at HB HS
        have HPt := Lib.hid (put1 b (wr.heap.size + 1) (acc ++ X) [59, 32] W3 hz3 HP3.out (by have := HB.out; simp only [List.length_append, List.length_cons, List.length_nil] at this ⊢; omega))
        clear hb3 hj0
        subst hW3
        go_wp2_with fail
        refine HPt.out.mono ?_
        rintro e w4 ⟨rfl, h4⟩
        have hb4 := h4.blk Hb3.out (by have := hbr2.out; omega) (by decide)
        obtain ⟨m0, m1, m2, m3⟩ : w4.cell? ⟨wr.heap.size, 0, none⟩ = _ ∧ w4.cell? ⟨wr.heap.size, 1, none⟩ = _ ∧ w4.cell? ⟨wr.heap.size, 2, none⟩ = _ ∧ w4.cell? ⟨wr.heap.size, 3, none⟩ = _ := ⟨hb4.cell 0, hb4.cell 1, hb4.cell 2, hb4.cell 3⟩
        have HC := Lib.hid (decl_any b _ d w4 h4.pr (HD3.out.below h4.bel) (by have := HB.out; simp only [List.length_append, List.length_cons, List.length_nil] at this ⊢; omega))
        unfold Dc.val at HC
        have HW4 := Lib.hid (HW3.out.trans h4)
        clear h4 hb4 HPt c0 c1 c2 c3
        go_wp2_with fail
        refine HC.out.mono ?_
        rintro e w5 ⟨rfl, h5⟩
        have HWn := Lib.hid (HW4.out.trans h5)
        clear h5 HC
        go_wp2
        go_roundw
        case rel => exact ⟨j + 1, X ++ ([59, 32] ++ d.shw), by omega, by go_num, HS.out, by simpa only [List.append_assoc] using HWn.out⟩
        case measure => simp [RowKit.intOf]; omega
    · have hXe : X = jnL [59, 32] 0 (l.map Dc.shw) := by
        rw [← hX, List.drop_eq_nil_of_le (by rw [← HL.out]; omega)]
        simp [jnL]
      have HWn := Lib.hid hW
      rw [hXe] at HWn
      clear hX hW hXe
      go_wp2
      go_end0
      exact ⟨rfl, HWn.out⟩

set_option maxRecDepth 100000 in
set_option maxHeartbeats 400000 in
theorem join1_any (bb oo c : Nat) (x : List UInt8) (sep : ByteArray) (w : World) (hx : w.cell? ⟨bb, oo, none⟩ = some (.string ⟨x.toArray⟩)) :
    Calls Tryd.prog 111 #[.slice (some ⟨bb, oo, none⟩) 1 c, .string sep] w fun e w' => e = .returned (.string ⟨x.toArray⟩) ∧ w' = w := by
  go_enter Tryd.func111, Tryd.ntmps111
  go_wp2
  go_ret
  exact ⟨rfl, rfl⟩
/-- An equation that gives one variable by an expression. -/
structure Qp where
  pos : Int
  bb : Nat
  oo : Nat
  x : List UInt8
  e : Ex
def Qp.vals (q : Qp) : List Value := [.int .i64 q.pos, .slice (some ⟨q.bb, q.oo, none⟩) 1 1, .int .i64 q.e.op, .int .i64 q.e.pos, .int .i64 q.e.n, .string ⟨q.e.name.toArray⟩, .slice q.e.A q.e.l.length q.e.c, .string { data := #[] }, .slice none 0 0, .string { data := #[] }]
def LQp : Lie Qp := ⟨37, 10, Qp.vals, fun _ => rfl, fun _ u hu => by
  simp [Qp.vals] at hu
  rcases hu with rfl | rfl | rfl | rfl | rfl | rfl | rfl | rfl | rfl | rfl <;> rfl⟩
structure Qp.Lies (W : World) (b : Nat) (q : Qp) : Prop where
  e : q.e.Lies W (· < b)
  lt : q.bb < b
  x : W.cell? ⟨q.bb, q.oo, none⟩ = some (.string ⟨q.x.toArray⟩)
  rng : q.e.rng = true
theorem Qp.Lies.below {W W' : World} {b : Nat} {q : Qp} (h : q.Lies W b) (hB : Below b W W') : q.Lies W' b := ⟨h.e.below hB, h.lt, (hB.cell h.lt).trans h.x, h.rng⟩
def Qp.shw (q : Qp) : List UInt8 := q.x ++ [32, 61, 32] ++ q.e.shw

set_option maxRecDepth 100000 in
set_option maxHeartbeats 1000000 in
theorem eqn_any (b : Nat) (acc : List UInt8) (q : Qp) (w : World) (h : PrA b acc w) (hq : q.Lies w b) (hT : TbB b w) (hlen : acc.length + q.shw.length ≤ 140737488355328) :
    Calls Tryd.prog 72 #[.pointer (some ⟨b, 0, none⟩), .agg q.vals.toArray] w fun r w' => r = .returned (.tuple #[]) ∧ Wr b (acc ++ q.shw) w w' := by
  obtain ⟨pos, bb, oo, x, e⟩ := q
  unfold Qp.vals
  dsimp only
  obtain ⟨W1, hW1⟩ : ∃ W1, W1 = w.alloc (.cells #[.int .i64 pos, .slice (some ⟨bb, oo, none⟩) 1 1, .int .i64 e.op, .int .i64 e.pos, .int .i64 e.n, .string ⟨e.name.toArray⟩, .slice e.A e.l.length e.c, .string { data := #[] }, .slice none 0 0, .string { data := #[] }] 37) := ⟨_, rfl⟩
  have hWr1 : Wr b acc w W1 := by rw [hW1]; exact Wr.ofAlloc h _
  have hb1 : Blk W1 w.heap.size 37 #[.int .i64 pos, .slice (some ⟨bb, oo, none⟩) 1 1, .int .i64 e.op, .int .i64 e.pos, .int .i64 e.n, .string ⟨e.name.toArray⟩, .slice e.A e.l.length e.c, .string { data := #[] }, .slice none 0 0, .string { data := #[] }] := by rw [hW1]; exact heap_alloc_new w _
  have hz1 : W1.heap.size = w.heap.size + 1 := by rw [hW1]; simp
  have hq1 := hq.below hWr1.bel
  have hbw := h.lt
  have hl : acc.length + (x.length + 3) + e.shw.length ≤ 140737488355328 := by
    simp only [Qp.shw, List.length_append, List.length_cons, List.length_nil] at hlen
    omega
  have HJ := Lib.hid (join1_any bb oo 1 x { data := #[44, 32] } W1 hq1.x)
  have HP := Lib.hid (put2 b (w.heap.size + 1) acc x [32, 61, 32] W1 hz1 hWr1.pr (by simp only [List.length_cons, List.length_nil]; omega))
  have HW1 := Lib.hid hWr1
  have Hb1 := Lib.hid hb1
  have HQ := Lib.hid hq1
  have HT := Lib.hid (hT.next hWr1.bel)
  have HLe := Lib.hid hl
  have k1 := hb1.cell 1
  clear hq1 hWr1 hb1 hz1 hq hT h hlen hl
  subst hW1
  go_enter Tryd.func72, Tryd.ntmps72
  go_wp2_with fail
  refine HJ.out.mono ?_
  rintro r w1 ⟨rfl, rfl⟩
  go_wp2_with fail
  refine HP.out.mono ?_
  rintro r w2 ⟨rfl, h2⟩
  have hb2 := h2.blk Hb1.out (by omega) (by decide)
  have m2 := hb2.cell 2
  have m3 := hb2.cell 3
  have m4 := hb2.cell 4
  have m5 := hb2.cell 5
  have m6 := hb2.cell 6
  have m7 := hb2.cell 7
  have HE := Lib.hid (expr_any e b _ w2 h2.pr (HQ.out.e.below h2.bel) (HT.out.next h2.bel) HQ.out.rng (by have := HLe.out; simp only [List.length_append, List.length_cons, List.length_nil]; omega))
  have HW2 := Lib.hid (HW1.out.trans h2)
  clear h2 hb2 HP HJ k1
  unfold Ex.val at HE
  go_wp2_with fail
  refine HE.out.mono ?_
  rintro r w3 ⟨rfl, h3⟩
  have HW3 := Lib.hid (HW2.out.trans h3)
  clear h3 HE
  go_wp2
  (try simp only [Exit.inBlock, Exit.then])
  refine bodyPost_ret (results_none rfl _ _ _) rfl ?_
  exact ⟨rfl, by simpa only [Qp.shw, List.append_assoc] using HW3.out⟩
end Go.Proofs.YtpfehddkaapjiaaDoor
