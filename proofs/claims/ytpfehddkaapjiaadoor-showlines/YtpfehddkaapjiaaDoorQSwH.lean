/-
  show's Expr of an expression over a list that is built for it; pendulumlaw8's first. Conditions: each theorem's own premises.
-/
import Derived.Test.YtpfehddkaapjiaaDoorQSwE
namespace Go.Proofs.YtpfehddkaapjiaaDoor
open Go.RowKit Go.Lib Go.Shelf
attribute [local go_sem] Oper.semAt_some

/-- The tables stand. -/
structure Tbs (w : World) : Prop where
  tab : Tab w
  bef : Bef w
theorem Tbs.below {w w' : World} (h : Tbs w) (hB : Below w.heap.size w w') : Tbs w' := ⟨h.tab.below hB, h.bef.below hB⟩
theorem Tbs.alloc {w : World} (h : Tbs w) (o : Obj) : Tbs (w.alloc o) := h.below ((Below.refl _ _).alloc (Nat.le_refl _) _)
theorem sl_bare (W : World) (K : Nat → Prop) (op pos n : Int) (s : List UInt8) : (Ex.mk op pos n s none 0 []).Lies W K := Xs.lies (e := .mk op pos n s none 0 []) (Xs.nil W K)
theorem sl_blk {W : World} {K : Nat → Prop} {k : Nat} {op pos n : Int} {s : List UInt8} {l : List Ex} (hb : Blk W k 34 (LX.cells l).toArray) (hK : K k) (hl : l.length ≤ 100) (ha : ∀ x ∈ l, x.Lies W K) :
    (Ex.mk op pos n s (some ⟨k, 0, none⟩) l.length l).Lies W K := by
  refine Xs.lies (e := .mk op pos n s (some ⟨k, 0, none⟩) l.length l) ⟨⟨Nat.le_refl _, (fun h => by cases h), fun _ => ⟨_, _, rfl, hK⟩, by simp [maxLen, Ex.c]; omega⟩, fun b o e j u hu => ?_, ha⟩
  cases e
  have hu' : (LX.cells l)[j]? = some u := hu
  rw [Nat.zero_add, hb.cell j]
  simpa using hu'
/-- Over a list built for the call. -/
theorem show_at (W : World) (op n : Int) (s : List UInt8) (l : List Ex) (T : List UInt8) (ht : Tbs W) (hl : l.length ≤ 100) (ha : ∀ x ∈ l, x.Lies W (· < W.heap.size)) (hr : (Ex.mk op 0 n s none 0 l).rng = true) (hT : (Ex.mk op 0 n s none 0 l).shw = T) (hne : T ≠ []) (hlen : T.length ≤ 140737488355328) :
    Calls Tryd.prog 32 #[.agg #[.int .i64 op, .int .i64 0, .int .i64 n, .string ⟨s.toArray⟩, .slice (some ⟨W.heap.size, 0, none⟩) l.length l.length]] (W.alloc (.cells (LX.cells l).toArray 34)) fun r w' => r = .returned (.string ⟨T.toArray⟩) ∧ Below W.heap.size W w' := by
  have hB : Below W.heap.size W (W.alloc (.cells (LX.cells l).toArray 34)) := (Below.refl _ _).alloc (Nat.le_refl _) _
  have hs : (Ex.mk op 0 n s (some ⟨W.heap.size, 0, none⟩) l.length l).shw = T := hT
  have h := sexpr_any (.mk op 0 n s (some ⟨W.heap.size, 0, none⟩) l.length l) (W.alloc (.cells (LX.cells l).toArray 34))
    (sl_blk (heap_alloc_new W _) (by simp) hl fun x hx => (ha x hx).keep (fun b hb => by simp; omega) (fun p hp => World.cell?_alloc_lt _ _ _ hp) x)
    (ht.alloc _).tab (ht.alloc _).bef hr (by rw [hs]; exact hlen) (by rw [hs]; exact hne)
  rw [hs] at h
  refine h.mono ?_
  rintro r w' ⟨rfl, h2⟩
  exact ⟨rfl, hB.trans (h2.mono hB.size)⟩

set_option maxRecDepth 100000 in
set_option maxHeartbeats 1000000 in
theorem first8_any (w : World) (ht : Tbs w) : Calls Tryd.prog 21 #[] w (fun e w' => e = .returned (.bool true) ∧ Below w.heap.size w w') := by
  obtain ⟨W1, hW1⟩ : ∃ W1, W1 = ((w.alloc (.cells #[.int .i64 3, .int .i64 0, .int .i64 0, .string { data := #[97] }, .slice none 0 0, .int .i64 1, .int .i64 0, .int .i64 1, .string { data := #[] }, .slice none 0 0] 34)).alloc (.cells #[.int .i64 6, .int .i64 0, .int .i64 0, .string { data := #[] }, .slice (some ⟨w.heap.size, 0, none⟩) 2 2] 34)).alloc (.cells #[.int .i64 3, .int .i64 0, .int .i64 0, .string { data := #[98] }, .slice none 0 0] 34) := ⟨_, rfl⟩
  have hB1 : Below w.heap.size w W1 := by rw [hW1]; exact (((Below.refl _ _).alloc (Nat.le_refl _) _).alloc (by simp) _).alloc (by simp; omega) _
  have hz1 : W1.heap.size = w.heap.size + 1 + 1 + 1 := by rw [hW1]; simp
  have b0 : Blk W1 w.heap.size 34 #[.int .i64 3, .int .i64 0, .int .i64 0, .string { data := #[97] }, .slice none 0 0, .int .i64 1, .int .i64 0, .int .i64 1, .string { data := #[] }, .slice none 0 0] := by rw [hW1]; exact Blk.alloc (Blk.alloc (heap_alloc_new w _) _) _
  have b2 : Blk W1 (w.heap.size + 1 + 1) 34 #[.int .i64 3, .int .i64 0, .int .i64 0, .string { data := #[98] }, .slice none 0 0] := by rw [hW1]; exact blkn (by simp)
  have l1 : (Ex.mk 6 0 0 [] (some ⟨w.heap.size, 0, none⟩) 2 [.mk 3 0 0 [97] none 0 [], .mk 1 0 1 [] none 0 []]).Lies W1 (· < W1.heap.size) :=
    sl_blk (l := [.mk 3 0 0 [97] none 0 [], .mk 1 0 1 [] none 0 []]) b0 (by omega) (by decide) fun x hx => by
      simp only [List.mem_cons, List.mem_nil_iff, or_false] at hx
      rcases hx with rfl | rfl <;> exact sl_bare _ _ _ _ _ _
  have l2 : (Ex.mk 4 0 0 [] (some ⟨w.heap.size + 1 + 1, 0, none⟩) 1 [.mk 3 0 0 [98] none 0 []]).Lies W1 (· < W1.heap.size) :=
    sl_blk (l := [.mk 3 0 0 [98] none 0 []]) b2 (by omega) (by decide) fun x hx => by
      simp only [List.mem_cons, List.mem_nil_iff, or_false] at hx
      subst hx
      exact sl_bare _ _ _ _ _ _
  have HC := Lib.hid (show_at W1 8 0 [] [.mk 6 0 0 [] (some ⟨w.heap.size, 0, none⟩) 2 [.mk 3 0 0 [97] none 0 [], .mk 1 0 1 [] none 0 []], .mk 4 0 0 [] (some ⟨w.heap.size + 1 + 1, 0, none⟩) 1 [.mk 3 0 0 [98] none 0 []]] [40, 97, 32, 43, 32, 49, 41, 32, 42, 32, 40, 45, 98, 41] (ht.below hB1) (by simp)
    (fun x hx => by
      simp only [List.mem_cons, List.mem_nil_iff, or_false] at hx
      rcases hx with rfl | rfl
      · exact l1
      · exact l2) rfl (by rw [Ex.shw_eq]; simp [Ex.op, Ex.l, shwL, Ex.shw, bef, befT, alone, brk, Lib.itoa, Lib.decDigits_one]) (by simp) (by simp))
  rw [hz1] at HC
  have HB1 := Lib.hid hB1
  clear b0 b2 l1 l2 ht hB1
  subst hW1
  go_enter Tryd.func21, Tryd.ntmps21
  go_wp2_with fail
  refine HC.out.mono ?_
  rintro e w2 ⟨rfl, h2⟩
  have HB2 := Lib.hid (HB1.out.trans (h2.mono (by omega)))
  clear h2
  go_wp2
  go_ret
  exact ⟨rfl, HB2.out⟩
end Go.Proofs.YtpfehddkaapjiaaDoor
