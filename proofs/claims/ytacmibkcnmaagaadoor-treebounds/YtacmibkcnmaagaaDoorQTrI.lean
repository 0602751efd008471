/-
  The walk of tree's Uses. Conditions: each theorem's own premises.
-/
import Derived.Test.YtacmibkcnmaagaaDoorQTrH
import Derived.Test.YtacmibkcnmaagaaDoorQShs
import Derived.Sort.OwnSorted
namespace Go.Proofs.YtacmibkcnmaagaaDoor
open Go.RowKit Go.Lib Go.Sort Go.Shelf

/-- The names that are used, rising, each once. -/
def usesS (l : List (List UInt8)) : List (List UInt8) := Lib.compact (l.mergeSort fun x y => decide (x ≤ y))
theorem compact_len (zs : List (List UInt8)) : (Lib.compact zs).length ≤ zs.length := by
  unfold Lib.compact Lib.compactUpTo
  rw [List.length_map]
  exact Nat.le_trans (List.length_filter_le _ _) (by simp)
theorem LN_cells : ∀ l : List (List UInt8), LN.cells l = l.map encStr
  | [] => rfl
  | a :: r => by
    have := LN_cells r
    show [Value.string ⟨a.toArray⟩] ++ LN.cells r = _
    rw [this]
    rfl
/-- What sorting and compacting a row of the call's own leaves. -/
def RetSc (w : World) (l : List (List UInt8)) (e : Ending) (w' : World) : Prop := ∃ A c, e = .returned (.slice A (usesS l).length c) ∧ Rw LN w' w'.heap.size A (usesS l) ∧ (A = none → c = 0) ∧ (usesS l).length ≤ c ∧ Below w.heap.size w w'

set_option maxRecDepth 100000 in
theorem sort_own {w : World} {g cap : Nat} {l : List (List UInt8)} {cs : Array Value} (hg : Blk w g 9 cs) (h1 : l.length ≤ cap) (h3 : cs.size = cap) (h4 : cs.toList.take l.length = l.map encStr) (hl : l.length ≤ 1000000) :
    Calls Tryd.prog 70 #[.slice (some ⟨g, 0, none⟩) l.length cap] w fun e w' => e = .returned (.tuple #[]) ∧ w.grownBy w' (some g) ∧ ∃ cs', Blk w' g 9 cs' ∧ cs'.size = cap ∧ cs'.toList.take l.length = (l.mergeSort fun x y => decide (x ≤ y)).map encStr := by
  refine (AnyM.slices_Sort_string Tryd.sortS g 0 cap l w (holds_of_block hg h4) hg.lt (by omega)).mono ?_
  rintro e w' ⟨rfl, n, os, rfl⟩
  have hml : (l.mergeSort fun x y => decide (x ≤ y)).length = l.length := List.length_mergeSort _
  refine ⟨rfl, grownBy_sorted _, _, heap_sorted _ hg, by simp [putCells, h3], ?_⟩
  rw [← hml]
  exact take_putCells cs _ (by omega)
theorem compact_own {w : World} {g cap : Nat} {l : List (List UInt8)} {cs : Array Value} (hg : Blk w g 9 cs) (h1 : l.length ≤ cap) (h3 : cs.size = cap) (h4 : cs.toList.take l.length = l.map encStr) (hl : l.length ≤ 1000000) :
    Calls Tryd.prog 71 #[.slice (some ⟨g, 0, none⟩) l.length cap] w fun e w' => e = .returned (.slice (some ⟨g, 0, none⟩) (Lib.compact l).length cap) ∧ w.grownBy w' (some g) ∧ ∃ cs', Blk w' g 9 cs' ∧ cs'.size = cap ∧ cs'.toList.take (Lib.compact l).length = (Lib.compact l).map encStr := by
  refine (AnyG.slices_Compact_string Tryd.compactS g 0 cap l w (holds_of_block hg h4) (by omega) h1).mono ?_
  rintro e w' ⟨rfl, q, rfl⟩
  have hcl := compact_len l
  have hG : (putRow encStr (Sort.ahead w q) g 0 (Lib.compact l ++ List.replicate (l.length - (Lib.compact l).length) []).toArray) = grow (putRow encStr (Sort.ahead w q) g 0 (Lib.compact l ++ List.replicate (l.length - (Lib.compact l).length) []).toArray) #[] := (grow_empty _).symm
  rw [hG]
  refine ⟨rfl, grownBy_sorted _, _, heap_sorted _ hg, by simp [putCells, h3], ?_⟩
  have ht := take_putCells cs (Lib.compact l ++ List.replicate (l.length - (Lib.compact l).length) []) (by simp; omega)
  have := congrArg (List.take (Lib.compact l).length) ht
  rw [List.take_take, Nat.min_eq_left (by simp), List.map_append, List.take_left' (by simp)] at this
  exact this

set_option maxRecDepth 100000 in
set_option maxHeartbeats 1000000 in
theorem uses_any (late : Bool) (d : Nat) (e : Ex) (w : World) (hd : e.dep ≤ d) (hs : e.slim 100000 = true) (hl : e.Lies w (· < w.heap.size)) (hc : e.cnt ≤ 100000) :
    Calls Tryd.prog 28 #[e.val, .bool late] w (RetSc w (e.uses late)) := by
  obtain ⟨W0, hW0⟩ : ∃ W0, W0 = w.alloc (.cells #[.int .i64 e.op, .int .i64 e.pos, .int .i64 e.n, .string ⟨e.name.toArray⟩, .slice e.A e.l.length e.c] 34) := ⟨_, rfl⟩
  have hB0 : Below w.heap.size w W0 := by rw [hW0]; exact (Below.refl _ _).alloc (Nat.le_refl _) _
  have hb0 : Blk W0 w.heap.size 34 #[.int .i64 e.op, .int .i64 e.pos, .int .i64 e.n, .string ⟨e.name.toArray⟩, .slice e.A e.l.length e.c] := by rw [hW0]; exact heap_alloc_new w _
  have HA := Lib.hid (addUses_any late W0.heap.size w.heap.size d e none 0 [] W0 hd hs (hl.below hB0) hB0.size (Nat.le_refl _) (by simp; omega) (Ow.nil LN W0 W0.heap.size))
  unfold Ex.val at HA
  rw [List.nil_append, List.length_nil] at HA
  have hul : (e.uses late).length ≤ 100000 := Nat.le_trans (uses_len late e) hc
  obtain ⟨us, hus⟩ : ∃ us, us = e.uses late := ⟨_, rfl⟩
  rw [← hus] at HA hul ⊢
  have HB0 := Lib.hid hB0
  obtain ⟨⟨k0, k1, k2, k3, k4⟩, -⟩ := blkx hb0
  dsimp only [Ex.val]
  clear hl hs hd hc hus hb0 hB0
  go_enter Tryd.func28, Tryd.ntmps28
  go_wp2_with fail
  rw [← hW0]
  clear hW0
  go_wp2_with fail
  refine HA.out.mono ?_
  rintro e2 w2 ⟨A, c, rfl, hO, hB2, -, -⟩
  have HB2 := Lib.hid (HB0.out.trans (hB2.mono HB0.out.size))
  have hz2 : W0.heap.size ≤ w2.heap.size := hB2.size
  have hz0 : w.heap.size ≤ W0.heap.size := HB0.out.size
  clear hB2 HA HB0 k0 k1 k2 k3 k4
  rcases hO.form with ⟨hv, rfl⟩ | ⟨g, cap, cs, hv, hb, hg, h1, h2, h3, h4⟩
  · cases hv
    clear hO
    have hE : usesS [] = [] := by unfold usesS; rw [List.mergeSort_nil]; rfl
    go_wp2_with fail
    refine (AnyM.slices_Sort_string_none Tryd.sortS none 0 w2).mono ?_
    rintro e w' ⟨rfl, rfl⟩
    go_wp2_with fail
    refine (AnyG.slices_Compact_string_empty Tryd.compactS none 0 w').mono ?_
    rintro e w3 ⟨rfl, rfl⟩
    go_wp2
    go_ret
    exact ⟨none, 0, by rw [hE]; rfl, by rw [hE]; exact Rw.nil, fun _ => rfl, by rw [hE]; exact Nat.le_refl _, HB2.out⟩
  · cases hv
    rw [show LN.n = 1 from rfl, Nat.mul_one] at h3 h4
    rw [LN_cells] at h4
    have HS := Lib.hid (sort_own (l := us) (cap := c) hg h1 h3 h4 (by omega))
    have hml : (us.mergeSort fun x y => decide (x ≤ y)).length = us.length := List.length_mergeSort _
    obtain ⟨ms, hms⟩ : ∃ ms, ms = us.mergeSort fun x y => decide (x ≤ y) := ⟨_, rfl⟩
    rw [← hms] at HS hml
    have HUs : Hid (usesS us = Lib.compact ms) := Lib.hid (by unfold usesS; rw [hms])
    obtain ⟨n, hn⟩ : ∃ n, n = us.length := ⟨_, rfl⟩
    rw [← hn] at HS hml h1 ⊢
    have hmn : ms.length ≤ c := by omega
    have HC := Lib.hid (fun (W : World) (cs' : Array Value) (hg : Blk W g 9 cs') (h3 : cs'.size = c) (h4 : cs'.toList.take ms.length = ms.map encStr) => compact_own (l := ms) (cap := c) hg hmn h3 h4 (by omega))
    rw [hml] at HC
    have hcl := compact_len ms
    obtain ⟨m, hm⟩ : ∃ m, m = (Lib.compact ms).length := ⟨_, rfl⟩
    have HM := Lib.hid hm
    rw [← hm] at HC hcl
    clear hO hg h3 h4 hms hn hm
    go_wp2_with fail
    refine HS.out.mono ?_
    rintro e w3 ⟨rfl, hg3, cs3, hb3, hs3, ht3⟩
    have HC3 := Lib.hid (HC.out w3 cs3 hb3 hs3 ht3)
    have HB3 := Lib.hid (HB2.out.grown hg3 HB2.out.size (fun k e => by cases e; omega))
    clear hg3 hb3 hs3 ht3 HS HC HB2
    go_wp2_with fail
    refine HC3.out.mono ?_
    rintro e w4 ⟨rfl, hg4, cs4, hb4, hs4, ht4⟩
    have HB4 := Lib.hid (HB3.out.grown hg4 HB3.out.size (fun k e => by cases e; omega))
    have HF := Lib.hid (⟨hb4, hs4, ht4⟩ : _ ∧ _ ∧ _)
    clear hg4 hb4 hs4 ht4
    go_wp2
    go_ret
    obtain ⟨hb4, hs4, ht4⟩ := HF.out
    unfold RetSc
    rw [HUs.out]
    refine ⟨some ⟨g, 0, none⟩, c, by rw [HM.out]; rfl, ⟨fun _ => ⟨_, rfl, hb4.lt, fun j u hu => ?_⟩⟩, (fun e => by cases e), by rw [← HM.out]; omega, HB4.out⟩
    rw [lit_add, hb4.cell]
    rw [LN_cells, ← ht4, List.getElem?_take] at hu
    split at hu
    · simpa using hu
    · cases hu
end Go.Proofs.YtacmibkcnmaagaaDoor
