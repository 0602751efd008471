/-
  The walk of the documents' SameTexts where both are alike; of pendulumlaw7's first. Conditions: each theorem's own premises.
-/
import Derived.Test.YtacmibkcnmaagaaDoorQTrI
namespace Go.Proofs.YtacmibkcnmaagaaDoor
open Go.RowKit Go.Lib Go.Sort Go.Shelf

/-- A slice built of texts. -/
theorem rw_built {α : Type} (L : Lie α) (w : World) (l : List α) : Rw L (w.alloc (.cells (L.cells l).toArray L.ty)) (w.alloc (.cells (L.cells l).toArray L.ty)).heap.size (some ⟨w.heap.size, 0, none⟩) l :=
  ⟨fun _ => ⟨_, rfl, by simp, fun j u hu => by
    rw [lit_add]
    have hB : Blk (w.alloc (.cells (L.cells l).toArray L.ty)) w.heap.size _ _ := heap_alloc_new w _
    rw [hB.cell j]
    simpa using hu⟩⟩
set_option maxRecDepth 100000 in
set_option maxHeartbeats 1000000 in
theorem sameTexts_yes (A1 A2 : Option Addr) (c1 c2 B : Nat) (l : List (List UInt8)) (w : World) (h1 : Rw LN w B A1 l) (h2 : Rw LN w B A2 l) (hB : B ≤ w.heap.size) (hl : l.length ≤ 1000000) :
    Calls Tryd.prog 27 #[.slice A1 l.length c1, .slice A2 l.length c2] w fun e w' => e = .returned (.bool true) ∧ Below w.heap.size w w' := by
  have H1 := Lib.hid (h1.more hB)
  have H2 := Lib.hid (h2.more hB)
  clear h1 h2 hB
  go_enter Tryd.func27, Tryd.ntmps27
  go_wp2
  go_loopg [5, 6] l.length (fun kx s5 s6 wr => ∃ (k : Nat), s5 = .int .i64 k ∧ k ≤ l.length ∧ l.length - k ≤ kx ∧ Hid (Below w.heap.size w wr))
  case atStart => exact ⟨0, rfl, by omega, by omega, Lib.hid (Below.refl _ _)⟩
  case round =>
    obtain ⟨k, rfl, hkm, hkx, HB⟩ := hrel
    by_cases hlt : k < l.length
    · have hltI : (k : Int) < l.length := by omega
      obtain ⟨ad1, rfl, _, p1⟩ := (H1.out.below HB.out).pick hlt
      obtain ⟨ad2, rfl, _, p2⟩ := (H2.out.below HB.out).pick hlt
      have q1 : wr.cell? (ad1.add (k * 1)) = some (.string ⟨l[k].toArray⟩) := p1 0 _ rfl
      have q2 : wr.cell? (ad2.add (k * 1)) = some (.string ⟨l[k].toArray⟩) := p2 0 _ rfl
      rw [Nat.mul_one] at q1 q2
      generalize l[k] = x at *
      clear p1 p2
      go_wp2_with fail
      go_quiet (fail)
      have HB4 : Hid (Below w.heap.size w (wr.drewN nq)) := Lib.hid (HB.out.trans ((show Below wr.heap.size wr (wr.drewN nq) from ⟨rfl, rfl, rfl, Nat.le_refl _, fun _ _ => rfl⟩).mono HB.out.size))
      clear HB q1 q2
      generalize wr.drewN nq = W4 at *
      go_wp2
      go_roundg (l.length - (k + 1))
      case measure => omega
      case rel => exact ⟨k + 1, by go_num, by omega, Nat.le_refl _, HB4⟩
    · have hltI : ¬ (k : Int) < l.length := by omega
      go_wp2
      go_ret
      exact ⟨rfl, HB.out⟩
/-- Expressions in a slice built for them. -/
theorem xs_built (w : World) (K : Nat → Prop) (l : List Ex) (hK : K w.heap.size) (hl : l.length ≤ maxLen) (ha : ∀ x ∈ l, x.Lies (w.alloc (.cells (LX.cells l).toArray LX.ty)) K) : Xs (w.alloc (.cells (LX.cells l).toArray LX.ty)) K (some ⟨w.heap.size, 0, none⟩) l.length l := by
  refine ⟨⟨Nat.le_refl _, (fun h => by cases h), fun _ => ⟨_, _, rfl, hK⟩, hl⟩, fun b o e j u hu => ?_, ha⟩
  cases e
  have hB : Blk (w.alloc (.cells (LX.cells l).toArray LX.ty)) w.heap.size _ _ := heap_alloc_new w _
  rw [Nat.zero_add, hB.cell j]
  simpa using hu
theorem lies_bare (W : World) (K : Nat → Prop) (op pos n : Int) (s : List UInt8) : (Ex.mk op pos n s none 0 []).Lies W K := Xs.lies (e := .mk op pos n s none 0 []) (Xs.nil W K)
/-- The chapter's examples' expression. -/
def exF (b : Nat) : Ex := .mk 21 0 0 [] (some ⟨b, 0, none⟩) 2 [.mk 3 0 0 [97] none 0 [], .mk 3 0 0 [98] none 0 []]
theorem exF_lies (b : Nat) (w : World) (o : Obj) (hb : w.heap.size = b) : (exF b).Lies ((w.alloc (.cells #[.int .i64 3, .int .i64 0, .int .i64 0, .string { data := #[97] }, .slice none 0 0, .int .i64 3, .int .i64 0, .int .i64 0, .string { data := #[98] }, .slice none 0 0] 34)).alloc o) (· < ((w.alloc (.cells #[.int .i64 3, .int .i64 0, .int .i64 0, .string { data := #[97] }, .slice none 0 0, .int .i64 3, .int .i64 0, .int .i64 0, .string { data := #[98] }, .slice none 0 0] 34)).alloc o).heap.size) := by
  subst hb
  have h := xs_built w (· < w.heap.size + 1) [.mk 3 0 0 [97] none 0 [], .mk 3 0 0 [98] none 0 []] (by omega) (by decide) (fun x hx => by
    simp only [List.mem_cons, List.mem_nil_iff, or_false] at hx
    rcases hx with rfl | rfl <;> exact lies_bare _ _ _ _ _ _)
  refine Xs.lies (e := exF w.heap.size) ?_
  refine Xs.keep h (fun b hb => by simp; omega) (fun p hp => ?_)
  exact World.cell?_alloc_lt _ _ _ (by simpa using hp)
theorem exF_now (b : Nat) : usesS ((exF b).uses false) = [[97]] := by
  show usesS [[97]] = _
  unfold usesS
  rw [List.mergeSort_of_pairwise (by decide)]
  decide
theorem exF_late (b : Nat) : usesS ((exF b).uses true) = [[97], [98]] := by
  show usesS [[97], [98]] = _
  unfold usesS
  rw [List.mergeSort_of_pairwise (by decide)]
  decide
theorem exF_dep (b : Nat) : (exF b).dep = 2 := rfl
theorem exF_cnt (b : Nat) : (exF b).cnt = 3 := rfl
theorem exF_slim (b : Nat) : (exF b).slim 100000 = true := rfl
theorem blk_new {W : World} {b : Nat} {t : TypeId} {cs : Array Value} (h : W.heap.size = b) : Blk (W.alloc (.cells cs t)) b t cs := by subst h; exact heap_alloc_new W _
set_option maxRecDepth 100000 in
set_option maxHeartbeats 1000000 in
theorem first_any (w : World) : Calls Tryd.prog 6 #[] w (fun e w' => e = .returned (.bool true) ∧ Below w.heap.size w w') := by
  go_enter Tryd.func6, Tryd.ntmps6
  go_wp2_with fail
  refine (uses_any false 2 (exF (w.heap.size + 1 + 1)) _ (by rw [exF_dep]; omega) (exF_slim _) (exF_lies _ _ _ (by simp)) (by rw [exF_cnt]; omega)).mono ?_
  rintro e2 w2 ⟨A, c, rfl, hR, -, -, hB⟩
  rw [exF_now] at hR ⊢
  have hL2 := Lib.hid (Ex.Lies.below (exF_lies _ _ _ (by simp)) hB : (exF (w.heap.size + 1 + 1)).Lies w2 _)
  have hbe : Blk w2 (w.heap.size + 1 + 1 + 1) 34 #[.int .i64 21, .int .i64 0, .int .i64 0, .string { data := #[] }, .slice (some ⟨w.heap.size + 1 + 1, 0, none⟩) 2 2] := (blk_new (by simp)).below hB (by simp)
  have hz2 : w.heap.size + 1 + 1 + 1 < w2.heap.size := Nat.lt_of_lt_of_le (by simp) hB.size
  simp only [World.size_alloc] at hL2
  have hL3 := Lib.hid (hL2.out.more (B' := w2.heap.size) (by omega))
  have HB2 : Hid (Below w.heap.size w w2) := Lib.hid (((((Below.refl _ w).alloc (Nat.le_refl _) _).alloc (by simp) _).alloc (by simp; omega) _).alloc (by simp; omega) _ |>.trans (hB.mono (by simp; omega)))
  have HR := Lib.hid hR
  clear hB hL2 hR
  obtain ⟨⟨k0, k1, k2, k3, k4⟩, -⟩ := blkx hbe
  go_wp2_with fail
  refine (sameTexts_yes A _ c _ _ [[97]] _ ((HR.out.below ((Below.refl _ w2).alloc (Nat.le_refl _) _)).more (by simp)) (rw_built LN w2 [[97]]) (Nat.le_refl _) (by decide)).mono ?_
  rintro e3 w3 ⟨rfl, hB3⟩
  have hB3' : Below w2.heap.size w2 w3 := ((Below.refl _ w2).alloc (Nat.le_refl _) _).trans (hB3.mono (by simp))
  have hbe3 := hbe.below hB3' hz2
  have hL4 := Lib.hid ((hL3.out.below hB3').more (B' := w3.heap.size) hB3'.size)
  have hz3 := hB3'.size
  have HB3 := Lib.hid (HB2.out.trans (hB3'.mono HB2.out.size))
  clear hB3 hB3' HB2 HR hL3 hbe k0 k1 k2 k3 k4
  obtain ⟨⟨k0, k1, k2, k3, k4⟩, -⟩ := blkx hbe3
  go_wp2_with fail
  refine (uses_any true 2 (exF (w.heap.size + 1 + 1)) w3 (by rw [exF_dep]; omega) (exF_slim _) hL4.out (by rw [exF_cnt]; omega)).mono ?_
  rintro e4 w4 ⟨A4, c4, rfl, hR, -, -, hB⟩
  rw [exF_late] at hR ⊢
  have HB4 := Lib.hid (HB3.out.trans (hB.mono HB3.out.size))
  have HR := Lib.hid hR
  clear hB hR HB3 hL4 hbe3 k0 k1 k2 k3 k4
  go_wp2_with fail
  refine (sameTexts_yes A4 _ c4 _ _ [[97], [98]] _ ((HR.out.below ((Below.refl _ w4).alloc (Nat.le_refl _) _)).more (by simp)) (rw_built LN w4 [[97], [98]]) (Nat.le_refl _) (by decide)).mono ?_
  rintro e5 w5 ⟨rfl, hB5⟩
  have HB5 := Lib.hid (HB4.out.trans ((((Below.refl _ w4).alloc (Nat.le_refl _) _).trans (hB5.mono (by simp))).mono HB4.out.size))
  clear hB5 HB4
  go_wp2
  go_ret
  exact ⟨rfl, HB5.out⟩
end Go.Proofs.YtacmibkcnmaagaaDoor
