/-
  The walk of the printer's expr, and of show's Expr. Conditions: each theorem's own premises.
-/
import Derived.Test.YtpfehddkaapjiaaDoorQSwD
namespace Go.Proofs.YtpfehddkaapjiaaDoor
open Go.RowKit Go.Lib Go.Shelf
attribute [local go_sem] Oper.semAt_some

theorem formatInt_any (n : Int) (w : World) (h0 : -9223372036854775808 ≤ n) (h1 : n ≤ 9223372036854775807) (ht : Tab w) :
    Calls Tryd.prog 75 #[.int .i64 n, .int .i64 10] w fun e w' => e = .returned (.string ⟨(Lib.itoa n).toArray⟩) ∧ Below w.heap.size w w' := by
  have h : Calls Tryd.prog 75 #[.int .i64 n, .int .i64 10] w fun e w' => e = .returned (.string ⟨(Lib.itoa n).toArray⟩) ∧ ∃ k os, w' = Sort.grow (w.drewN k) os := Go.Proofs.Any.strconv_FormatInt_10 Tryd.laysFormatInt n h0 h1 w ht
  refine h.mono ?_
  rintro e w' ⟨rfl, k, os, rfl⟩
  exact ⟨rfl, Lib.below_grow _ w (Nat.le_refl _) k os⟩

set_option maxRecDepth 100000 in
set_option maxHeartbeats 1000000 in
theorem expr_of (e : Ex) (IH : ∀ x ∈ e.l, ExprOk x) : ExprOk e := by
  intro b acc w h hL hT hR hlen
  obtain ⟨W1, hW1⟩ : ∃ W1, W1 = w.alloc (.cells #[.int .i64 e.op, .int .i64 e.pos, .int .i64 e.n, .string ⟨e.name.toArray⟩, .slice e.A e.l.length e.c] 34) := ⟨_, rfl⟩
  have hWr1 : Wr b acc w W1 := by rw [hW1]; exact Wr.ofAlloc h _
  have hb1 : Blk W1 w.heap.size 34 #[.int .i64 e.op, .int .i64 e.pos, .int .i64 e.n, .string ⟨e.name.toArray⟩, .slice e.A e.l.length e.c] := by rw [hW1]; exact heap_alloc_new w _
  have hz1 : W1.heap.size = w.heap.size + 1 := by rw [hW1]; simp
  have hbw := h.lt
  obtain ⟨⟨k0, k1, k2, k3, k4⟩, -⟩ := blkx hb1
  have HT1 := Lib.hid (hT.next hWr1.bel)
  have hops := operands_any e IH b acc W1 hWr1.pr (hL.below hWr1.bel) HT1.out hR
  have HW1 := Lib.hid hWr1
  have Hb1 := Lib.hid hb1
  have Hr := Lib.hid (Ex.rng_in hR)
  have HL1 := Lib.hid (hL.below hWr1.bel)
  have HIH := Lib.hid IH
  have HR := Lib.hid hR
  rw [Ex.shw_eq] at hlen ⊢
  unfold Ex.val
  unfold Ex.val at hops
  by_cases o1 : e.op = 1
  · rw [if_pos o1] at hlen ⊢
    have q1 : (e.op == 1) = true := by simp [o1]
    clear o1
    have HF := Lib.hid (formatInt_any e.n W1 Hr.out.1 Hr.out.2.1 HT1.out.here.1)
    have HLe := Lib.hid hlen
    clear hops hlen hL hT hR h hb1 IH hWr1
    subst hW1
    go_enter Tryd.func74, Tryd.ntmps74
    go_wp2_with fail
    refine HF.out.mono ?_
    rintro r w2 ⟨rfl, hB⟩
    have hW2 := Wr.ofBelow HW1.out.pr hB
    have HW2 := Lib.hid (HW1.out.trans hW2)
    have HP := Lib.hid (put1 b w2.heap.size acc (Lib.itoa e.n) w2 rfl hW2.pr HLe.out)
    clear hB hW2 HF
    go_wp2_with fail
    refine HP.out.mono ?_
    rintro r w3 ⟨rfl, h3⟩
    have HW3 := Lib.hid (HW2.out.trans h3)
    clear h3
    go_wp2
    go_end0
    exact ⟨rfl, HW3.out⟩
  rw [if_neg o1] at hlen ⊢
  have q1 : (e.op == 1) = false := by simp [o1]
  clear o1
  by_cases o2 : e.op = 2
  · rw [if_pos o2] at hlen ⊢
    have q2 : (e.op == 2) = true := by simp [o2]
    clear o2
    have hn : (if e.n = 1 then ([116, 114, 117, 101] : List UInt8) else [102, 97, 108, 115, 101]) = if (e.n == 1) = true then [116, 114, 117, 101] else [102, 97, 108, 115, 101] := by simp
    rw [hn] at hlen ⊢
    have HF := Lib.hid (formatBool_any (e.n == 1) W1)
    have HLe := Lib.hid hlen
    clear hops hlen hL hT hR h hb1 IH hWr1 hn
    generalize (if (e.n == 1) = true then ([116, 114, 117, 101] : List UInt8) else [102, 97, 108, 115, 101]) = tx at *
    subst hW1
    have HP := Lib.hid (put1 b (w.heap.size + 1) acc tx _ (by simp) HW1.out.pr HLe.out)
    go_enter Tryd.func74, Tryd.ntmps74
    go_wp2_with fail
    refine HF.out.mono ?_
    rintro r w2 ⟨rfl, rfl⟩
    go_wp2_with fail
    refine HP.out.mono ?_
    rintro r w3 ⟨rfl, h3⟩
    have HW3 := Lib.hid (HW1.out.trans h3)
    clear h3
    go_wp2
    go_end0
    exact ⟨rfl, HW3.out⟩
  rw [if_neg o2] at hlen ⊢
  have q2 : (e.op == 2) = false := by simp [o2]
  clear o2
  by_cases o3 : e.op = 3
  · rw [if_pos o3] at hlen ⊢
    have q3 : (e.op == 3) = true := by simp [o3]
    clear o3
    have HLe := Lib.hid hlen
    clear hops hlen hL hT hR h hb1 IH hWr1
    subst hW1
    have HP := Lib.hid (put1 b (w.heap.size + 1) acc e.name _ (by simp) HW1.out.pr HLe.out)
    go_enter Tryd.func74, Tryd.ntmps74
    go_wp2_with fail
    refine HP.out.mono ?_
    rintro r w3 ⟨rfl, h3⟩
    have HW3 := Lib.hid (HW1.out.trans h3)
    clear h3
    go_wp2
    go_end0
    exact ⟨rfl, HW3.out⟩
  rw [if_neg o3] at hlen ⊢
  have q3 : (e.op == 3) = false := by simp [o3]
  clear o3
  by_cases o4 : e.op = 24
  · rw [if_pos o4] at hlen ⊢
    have q4 : (e.op == 24) = true := by simp [o4]
    clear o4
    have HO := Lib.hid (hops (by simp only [List.length_append] at hlen; omega))
    have HLe := Lib.hid hlen
    clear hops hlen hL hT hR h hb1 IH hWr1
    subst hW1
    go_enter Tryd.func74, Tryd.ntmps74
    go_wp2_with fail
    refine HO.out.mono ?_
    rintro r w2 ⟨rfl, h2⟩
    obtain ⟨⟨m0, m1, m2, m3, m4⟩, -⟩ := blkx (h2.blk Hb1.out (by omega) (by decide))
    have HC := Lib.hid (clock_any b _ e.name (e.n == 1) w2 h2.pr (by have := HLe.out; simp only [List.length_append] at this ⊢; exact (Nat.add_assoc _ _ _).symm ▸ this))
    have HW2 := Lib.hid (HW1.out.trans h2)
    clear h2 HO k0 k1 k2 k3 k4
    go_wp2_with fail
    refine HC.out.mono ?_
    rintro r w3 ⟨rfl, h3⟩
    have HW3 := Lib.hid (HW2.out.trans h3)
    clear h3 HC
    go_wp2
    go_end0
    exact ⟨rfl, by rw [← List.append_assoc]; exact HW3.out⟩
  rw [if_neg o4] at hlen ⊢
  have q4 : (e.op == 24) = false := by simp [o4]
  clear o4
  by_cases o5 : e.op = 25
  · rw [if_pos o5] at hlen ⊢
    have q5 : (e.op == 25) = true := by simp [o5]
    clear o5
    have HLe := Lib.hid hlen
    clear hops hlen hL hT hR h hb1 IH hWr1
    have HP := Lib.hid (put2 b (w.heap.size + 1) acc [109, 101, 114, 103, 101, 40] e.name W1 hz1 HW1.out.pr (by have := HLe.out; simp only [List.length_append] at this; simp only [List.length_cons, List.length_nil] at this ⊢; omega))
    subst hW1
    go_enter Tryd.func74, Tryd.ntmps74
    go_wp2_with fail
    refine HP.out.mono ?_
    rintro r w2 ⟨rfl, h2⟩
    obtain ⟨⟨m0, m1, m2, m3, m4⟩, -⟩ := blkx (h2.blk Hb1.out (by omega) (by decide))
    have HO := Lib.hid (operands_any e HIH.out b _ w2 h2.pr (HL1.out.below h2.bel) (HT1.out.next h2.bel) HR.out (by have := HLe.out; simp only [List.length_append, List.length_cons, List.length_nil] at this ⊢; omega))
    have Hb2 := Lib.hid (h2.blk Hb1.out (by omega) (by decide))
    have HW2 := Lib.hid (HW1.out.trans h2)
    clear h2 HP k0 k1 k2 k3 k4
    go_wp2_with fail
    refine HO.out.mono ?_
    rintro r w3 ⟨rfl, h3⟩
    have HW3 := Lib.hid (HW2.out.trans h3)
    have HP3 := Lib.hid (put1 b w3.heap.size _ [41] w3 rfl h3.pr (by have := HLe.out; simp only [List.length_append, List.length_cons, List.length_nil] at this ⊢; omega))
    clear h3 HO m0 m1 m2 m3 m4 HW2
    go_wp2_with fail
    refine HP3.out.mono ?_
    rintro r w4 ⟨rfl, h4⟩
    have HW4 := Lib.hid (HW3.out.trans h4)
    clear h4 HP3 HW3
    go_wp2
    go_end0
    exact ⟨rfl, by simpa [List.append_assoc] using HW4.out⟩
  rw [if_neg o5] at hlen ⊢
  have q5 : (e.op == 25) = false := by simp [o5]
  clear o5
  have HO := Lib.hid (hops hlen)
  clear hops hlen hL hT hR h hb1 IH hWr1
  subst hW1
  go_enter Tryd.func74, Tryd.ntmps74
  go_wp2_with fail
  refine HO.out.mono ?_
  rintro r w2 ⟨rfl, h2⟩
  have HW2 := Lib.hid (HW1.out.trans h2)
  clear h2 HO
  go_wp2
  go_end0
  exact ⟨rfl, HW2.out⟩
theorem expr_any (e : Ex) : ExprOk e := Ex.ind (P := ExprOk) expr_of e

/-- A new printer. -/
theorem pr_new (w : World) : PrA w.heap.size [] (w.alloc (.cells #[.pointer none, .slice none 0 0] 101)) :=
  IsBuilderF.of (fresh_isBuilder _ _ w)
set_option maxRecDepth 100000 in
set_option maxHeartbeats 1000000 in
theorem sexpr_any (e : Ex) (w : World) (hL : e.Lies w (· < w.heap.size)) (h1 : Tab w) (h2 : Bef w) (hR : e.rng = true) (hlen : e.shw.length ≤ 140737488355328) (hne : e.shw ≠ []) :
    Calls Tryd.prog 32 #[e.val] w fun r w' => r = .returned (.string ⟨e.shw.toArray⟩) ∧ Below w.heap.size w w' := by
  obtain ⟨W1, hW1⟩ : ∃ W1, W1 = w.alloc (.cells #[.int .i64 e.op, .int .i64 e.pos, .int .i64 e.n, .string ⟨e.name.toArray⟩, .slice e.A e.l.length e.c] 34) := ⟨_, rfl⟩
  have hB1 : Below w.heap.size w W1 := by rw [hW1]; exact (Below.refl _ _).alloc (Nat.le_refl _) _
  have hb1 : Blk W1 w.heap.size 34 #[.int .i64 e.op, .int .i64 e.pos, .int .i64 e.n, .string ⟨e.name.toArray⟩, .slice e.A e.l.length e.c] := by rw [hW1]; exact heap_alloc_new w _
  have hz1 : W1.heap.size = w.heap.size + 1 := by rw [hW1]; simp
  obtain ⟨W2, hW2⟩ : ∃ W2, W2 = W1.alloc (.cells #[.pointer none, .slice none 0 0] 101) := ⟨_, rfl⟩
  have hP : PrA (w.heap.size + 1) [] W2 := by
    have := pr_new W1
    rw [hz1] at this
    rw [hW2]
    exact this
  have hB2 : Below w.heap.size w W2 := by rw [hW2]; exact hB1.alloc (by omega) _
  have hb2 : Blk W2 w.heap.size 34 #[.int .i64 e.op, .int .i64 e.pos, .int .i64 e.n, .string ⟨e.name.toArray⟩, .slice e.A e.l.length e.c] := by rw [hW2]; exact hb1.alloc _
  obtain ⟨⟨k0, k1, k2, k3, k4⟩, -⟩ := blkx hb2
  have HE := Lib.hid (expr_any e (w.heap.size + 1) [] W2 hP ((hL.below hB2).more (by omega)) (TbB.of h1 h2 hB2 (by omega)) hR (by simpa using hlen))
  have HB2 := Lib.hid hB2
  unfold Ex.val at HE ⊢
  clear hL h1 h2 hR hlen hP hB2 hb2 hb1 hB1 hz1
  subst hW2
  subst hW1
  go_enter Tryd.func32, Tryd.ntmps32
  go_wp2_with fail
  refine HE.out.mono ?_
  rintro r w3 ⟨rfl, h3⟩
  have HS := Lib.hid (string_any (w.heap.size + 1) _ w3 h3.pr (by simpa using hne))
  have HB3 := Lib.hid (HB2.out.trans (h3.bel.mono (by omega)))
  clear h3 HE k0 k1 k2 k3 k4
  go_wp2_with fail
  refine HS.out.mono ?_
  rintro r w4 ⟨rfl, h4⟩
  have HB4 := Lib.hid (HB3.out.trans (h4.mono (by omega)))
  clear h4
  go_wp2
  go_ret
  exact ⟨rfl, HB4.out⟩
end Go.Proofs.YtpfehddkaapjiaaDoor
