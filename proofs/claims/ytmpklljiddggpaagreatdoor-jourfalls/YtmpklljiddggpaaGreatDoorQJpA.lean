/-
  The walk of a store's appends. Conditions: each theorem's own premises.
-/
import Derived.Test.YtmpklljiddggpaaGreatDoorQJoY
import Derived.BigQuiet
namespace Go.Proofs.YtmpklljiddggpaaGreatDoor
open Go.Shelf Go.RowKit Go.Lib Go.Sort
attribute [local go_sem] Oper.semAt_some

set_option maxRecDepth 100000 in
set_option maxHeartbeats 8000000 in
set_option linter.unusedSimpArgs false in
theorem appends_any (g f m sb : Nat) (t : St) (v : Value) (Ac An : Option Addr) (cc cn : Nat) (ch nx : List Chg) (w : World) (aE aS aR : Addr) (hD : Dk w g f m t.s) (hS : StAt w sb g t.h v) (hB : Bd t) (he : Errs w aE aS aR)
    (hC : Chs w w.heap.size Ac ch) (hN : Chs w w.heap.size An nx) (hok : ∀ c ∈ ch, OkC c) (hokn : ∀ c ∈ nx, OkC c) (hl : ch.length ≤ 1000000) (hln : nx.length ≤ 1000000) :
    Calls Tryz.prog 27 #[.pointer (some ⟨sb, 0, none⟩), .slice Ac ch.length cc, .slice An nx.length cn] w fun e w' => e = .returned (.bool (decide (secs ch < secs nx ∧ t.h.used + secs ch ≤ roomN t.s.kept.length))) ∧ Below w.heap.size w w' := by
  obtain ⟨L, hH, hr⟩ := hB.inv.has
  have hage := hB.inv.age
  have hage0 := hH.age
  have hca := hB.calls
  have hlk := lookD_rest hB.inv.pend
  have hn1 := hD.n1
  have hnm := hD.nm
  have hrh := readHead_any t.h g f m t.s w aE aS aR hD he hB.inv.down (by rw [hlk]; exact hH.hd) ⟨hH.age, by omega⟩ hH.half hH.used
  have HS1 := Lib.hid (fun (w1 : World) (hB1 : Below w.heap.size w w1) => sectors_any Ac cc w.heap.size ch w1 (hC.below hB1) hB1.size hok hl)
  have HS2 := Lib.hid (fun (w1 : World) (hB1 : Below w.heap.size w w1) => sectors_any An cn w.heap.size nx w1 (hN.below hB1) hB1.size hokn hln)
  have HRo := Lib.hid (fun (w1 : World) (hB1 : Below w.heap.size w w1) => (by
    obtain ⟨k, hHd, _⟩ := (hD.below hB1).head
    exact room_any g f m t.s.kept.length k _ _ _ w1 hHd hn1 hnm : Calls Tryz.prog 48 #[.pointer (some ⟨g, 0, none⟩)] w1 fun e w' => e = .returned (.int .i64 (roomN t.s.kept.length : Int)) ∧ w1 = w'))
  have HSt := Lib.hid (fun (w1 : World) (hB1 : Below w.heap.size w w1) => (Blk.below hS hB1 (Blk.lt hS) : StAt w1 sb g t.h v))
  have s0 : w.cell? ⟨sb, 0, none⟩ = some (.pointer (some ⟨g, 0, none⟩)) := Blk.cell hS 0
  have hsl := Blk.lt hS
  have hus := hH.used
  have hrn : roomN t.s.kept.length ≤ 8192 := by unfold roomN; omega
  have hsc : secs ch ≤ 1000000000 := by have := encL_length_le hok; unfold secs; omega
  have hsn : secs nx ≤ 1000000000 := by have := encL_length_le hokn; unfold secs; omega
  clear hD hS hB he hC hN hok hokn hH hr hlk hage
  generalize roomN t.s.kept.length = R at *
  generalize secs nx = Sn at *
  generalize secs ch = Sc at *
  unfold RetHd hdV at hrh
  go_enter Tryz.func27, Tryz.ntmps27
  go_wp2_with fail
  refine hrh.mono ?_
  rintro e w1 ⟨rfl, hB1⟩
  have h2b : Blk (w1.alloc (.cells #[.int .i64 t.h.age, .int .i64 (t.h.half : Int), .int .i64 (t.h.used : Int)] 68)) w1.heap.size 68 #[.int .i64 t.h.age, .int .i64 (t.h.half : Int), .int .i64 (t.h.used : Int)] := heap_alloc_new w1 _
  have hB2 : Below w.heap.size w (w1.alloc (.cells #[.int .i64 t.h.age, .int .i64 (t.h.half : Int), .int .i64 (t.h.used : Int)] 68)) := hB1.alloc hB1.size _
  have hz2 : (w1.alloc (.cells #[.int .i64 t.h.age, .int .i64 (t.h.half : Int), .int .i64 (t.h.used : Int)] 68)).heap.size = w1.heap.size + 1 := by simp
  have hs1 := HS1.out _ hB2
  have HB2 := Lib.hid hB2
  have Hb2 := Lib.hid h2b
  have hw1 := hB1.size
  clear hrh hB1 hB2 h2b
  go_wp2_with fail
  refine hs1.mono ?_
  rintro e w3 ⟨rfl, hB3⟩
  generalize w1.alloc (.cells #[.int .i64 t.h.age, .int .i64 (t.h.half : Int), .int .i64 (t.h.used : Int)] 68) = w2 at *
  have hb3 := Hb2.out.below hB3 Hb2.out.lt
  have hB03 := HB2.out.trans (hB3.mono HB2.out.size)
  have hst3 := HSt.out _ hB03
  have hb0 : w3.cell? ⟨w1.heap.size, 0, none⟩ = some (.int .i64 t.h.age) := hb3.cell 0
  have hb1 : w3.cell? ⟨w1.heap.size, 1, none⟩ = some (.int .i64 (t.h.half : Int)) := hb3.cell 1
  have hb2 : w3.cell? ⟨w1.heap.size, 2, none⟩ = some (.int .i64 (t.h.used : Int)) := hb3.cell 2
  have ht0 : w3.cell? ⟨sb, 0, none⟩ = some (.pointer (some ⟨g, 0, none⟩)) := Blk.cell hst3 0
  have ht1 : w3.cell? ⟨sb, 1, none⟩ = some (.int .i64 t.h.age) := Blk.cell hst3 1
  have ht2 : w3.cell? ⟨sb, 2, none⟩ = some (.int .i64 (t.h.half : Int)) := Blk.cell hst3 2
  have ht3 : w3.cell? ⟨sb, 3, none⟩ = some (.int .i64 (t.h.used : Int)) := Blk.cell hst3 3
  have hw3 := hB03.size
  have HB03 := Lib.hid hB03
  have hB3d : Below w.heap.size w w3.drew := ⟨hB03.os, hB03.tape, hB03.output, hB03.size, hB03.block⟩
  have hs2 := HS2.out _ hB3d
  have HCB := Lib.hid (fun (p : Addr) (u : Value) (hu : w3.cell? p = some u) (w8 : World) (hB8 : Below w3.drew.heap.size w3.drew w8) => cell_below (w := w3.drew) hu hB8 (Nat.le_refl _))
  have HB3d := Lib.hid hB3d
  clear hs1 hB3 hb3 hst3 hB03 hB3d s0 Hb2
  have q1 : IntKind.i64.wrap ((t.h.used : Int) + (Sc : Int)) = (t.h.used : Int) + (Sc : Int) := by rw [IntKind.wrap_i64]; omega
  go_wp2_with fail
  by_cases hc : Sc < Sn
  · have hcI : (Sc : Int) < (Sn : Int) := by omega
    by_cases hc2 : t.h.used + Sc ≤ R
    · have hc2I : (t.h.used : Int) + (Sc : Int) ≤ (R : Int) := by omega
      have HDc := Lib.hid (decide_eq_true (show Sc < Sn ∧ t.h.used + Sc ≤ R from ⟨hc, hc2⟩))
      go_region_held3 (fun W => W.cell? ⟨w1.heap.size, 0, none⟩ = some (.int .i64 t.h.age) ∧ W.cell? ⟨w1.heap.size, 1, none⟩ = some (.int .i64 (t.h.half : Int)) ∧ W.cell? ⟨w1.heap.size, 2, none⟩ = some (.int .i64 (t.h.used : Int)) ∧ W.cell? ⟨sb, 0, none⟩ = some (.pointer (some ⟨g, 0, none⟩)) ∧ W.cell? ⟨sb, 1, none⟩ = some (.int .i64 t.h.age) ∧ W.cell? ⟨sb, 2, none⟩ = some (.int .i64 (t.h.half : Int)) ∧ W.cell? ⟨sb, 3, none⟩ = some (.int .i64 (t.h.used : Int))) (go_keep)
        (first
          | (go_at_call 47; refine hs2.mono ?_; rintro e w4 ⟨rfl, hB4⟩; have k0 := HCB.out _ _ hb0 _ hB4; have k1 := HCB.out _ _ hb1 _ hB4; have k2 := HCB.out _ _ hb2 _ hB4; have j0 := HCB.out _ _ ht0 _ hB4; have j1 := HCB.out _ _ ht1 _ hB4; have j2 := HCB.out _ _ ht2 _ hB4; have j3 := HCB.out _ _ ht3 _ hB4; have HB4 := Lib.hid (HB3d.out.trans (hB4.mono HB3d.out.size)); have hro := HRo.out _ HB4.out; clear hB4)
          | (go_at_call 48; refine hro.mono ?_; rintro e w5 ⟨rfl, rfl⟩))
      go_wp2
      go_ret
      exact ⟨by rw [HDc.out]; rfl, HB4.out⟩
    · have hc2I : decide ((t.h.used : Int) + (Sc : Int) ≤ (R : Int)) = false := decide_eq_false (by omega)
      have HDc := Lib.hid (decide_eq_false (show ¬ (Sc < Sn ∧ t.h.used + Sc ≤ R) from fun h => hc2 h.2))
      go_region_held3 (fun W => W.cell? ⟨w1.heap.size, 0, none⟩ = some (.int .i64 t.h.age) ∧ W.cell? ⟨w1.heap.size, 1, none⟩ = some (.int .i64 (t.h.half : Int)) ∧ W.cell? ⟨w1.heap.size, 2, none⟩ = some (.int .i64 (t.h.used : Int)) ∧ W.cell? ⟨sb, 0, none⟩ = some (.pointer (some ⟨g, 0, none⟩)) ∧ W.cell? ⟨sb, 1, none⟩ = some (.int .i64 t.h.age) ∧ W.cell? ⟨sb, 2, none⟩ = some (.int .i64 (t.h.half : Int)) ∧ W.cell? ⟨sb, 3, none⟩ = some (.int .i64 (t.h.used : Int))) (go_keep)
        (first
          | (go_at_call 47; refine hs2.mono ?_; rintro e w4 ⟨rfl, hB4⟩; have k0 := HCB.out _ _ hb0 _ hB4; have k1 := HCB.out _ _ hb1 _ hB4; have k2 := HCB.out _ _ hb2 _ hB4; have j0 := HCB.out _ _ ht0 _ hB4; have j1 := HCB.out _ _ ht1 _ hB4; have j2 := HCB.out _ _ ht2 _ hB4; have j3 := HCB.out _ _ ht3 _ hB4; have HB4 := Lib.hid (HB3d.out.trans (hB4.mono HB3d.out.size)); have hro := HRo.out _ HB4.out; clear hB4)
          | (go_at_call 48; refine hro.mono ?_; rintro e w5 ⟨rfl, rfl⟩))
      go_wp2
      go_ret
      exact ⟨by rw [HDc.out]; rfl, HB4.out⟩
  · have hcI : decide ((Sc : Int) < (Sn : Int)) = false := decide_eq_false (by omega)
    have HDc := Lib.hid (decide_eq_false (show ¬ (Sc < Sn ∧ t.h.used + Sc ≤ R) from fun h => hc h.1))
    clear HRo HS1 HS2 HSt
    have hS0 : w3.drew.cell? ⟨w1.heap.size, 0, none⟩ = some (.int .i64 t.h.age) ∧ w3.drew.cell? ⟨w1.heap.size, 1, none⟩ = some (.int .i64 (t.h.half : Int)) ∧ w3.drew.cell? ⟨w1.heap.size, 2, none⟩ = some (.int .i64 (t.h.used : Int)) ∧ w3.drew.cell? ⟨sb, 1, none⟩ = some (.int .i64 t.h.age) ∧ w3.drew.cell? ⟨sb, 2, none⟩ = some (.int .i64 (t.h.half : Int)) ∧ w3.drew.cell? ⟨sb, 3, none⟩ = some (.int .i64 (t.h.used : Int)) := ⟨hb0, hb1, hb2, ht1, ht2, ht3⟩
    refine wp_region_held_drew (S := fun W => W.cell? ⟨w1.heap.size, 0, none⟩ = some (.int .i64 t.h.age) ∧ W.cell? ⟨w1.heap.size, 1, none⟩ = some (.int .i64 (t.h.half : Int)) ∧ W.cell? ⟨w1.heap.size, 2, none⟩ = some (.int .i64 (t.h.used : Int)) ∧ W.cell? ⟨sb, 1, none⟩ = some (.int .i64 t.h.age) ∧ W.cell? ⟨sb, 2, none⟩ = some (.int .i64 (t.h.half : Int)) ∧ W.cell? ⟨sb, 3, none⟩ = some (.int .i64 (t.h.used : Int))) (by kernel_rfl) hS0 (fun _ => ?_)
    refine wpAnyH_take (i := 0) (v := .nilIface) rfl (by kernel_rfl) (by kernel_rfl) (by kernel_rfl) (fun _ _ _ h => h) (.inl ⟨rfl, fun W' hS => by obtain ⟨q0, q1, q2, q3, q4, q5⟩ := hS; go_simp⟩) hS0 ?_
    simp only [List.getElem_toArray, List.getElem_cons_zero, List.getElem_cons_succ, Act.put, List.setIfInBounds_toArray, List.set_cons_zero, List.set_cons_succ]
    refine wpAnyH_take (i := 1) (v := .bool true) rfl (by kernel_rfl) (by kernel_rfl) (by kernel_rfl) (fun _ _ _ h => h) (.inl ⟨rfl, fun W' hS => by obtain ⟨q0, q1, q2, q3, q4, q5⟩ := hS; go_simp⟩) hS0 ?_
    simp only [List.getElem_toArray, List.getElem_cons_zero, List.getElem_cons_succ, Act.put, List.setIfInBounds_toArray, List.set_cons_zero, List.set_cons_succ]
    refine wpAnyH_take (i := 2) (v := .bool true) rfl (by kernel_rfl) (by kernel_rfl) (by kernel_rfl) (fun _ _ _ h => h) (.inl ⟨rfl, fun W' hS => by obtain ⟨q0, q1, q2, q3, q4, q5⟩ := hS; go_simp⟩) hS0 ?_
    simp only [List.getElem_toArray, List.getElem_cons_zero, List.getElem_cons_succ, Act.put, List.setIfInBounds_toArray, List.set_cons_zero, List.set_cons_succ]
    refine wpAnyH_take (i := 3) (v := .agg #[.int .i64 t.h.age, .int .i64 (t.h.half : Int), .int .i64 (t.h.used : Int)]) rfl (by kernel_rfl) (by kernel_rfl) (by kernel_rfl) (fun _ _ _ h => h) (.inl ⟨rfl, fun W' hS => by obtain ⟨q0, q1, q2, q3, q4, q5⟩ := hS; go_simp⟩) hS0 ?_
    simp only [List.getElem_toArray, List.getElem_cons_zero, List.getElem_cons_succ, Act.put, List.setIfInBounds_toArray, List.set_cons_zero, List.set_cons_succ]
    refine wpAnyH_take (i := 4) (v := .pointer (some ⟨sb, 0, none⟩)) rfl (by kernel_rfl) (by kernel_rfl) (by kernel_rfl) (fun _ _ _ h => h) (.inl ⟨rfl, fun W' hS => by obtain ⟨q0, q1, q2, q3, q4, q5⟩ := hS; go_simp⟩) hS0 ?_
    simp only [List.getElem_toArray, List.getElem_cons_zero, List.getElem_cons_succ, Act.put, List.setIfInBounds_toArray, List.set_cons_zero, List.set_cons_succ]
    refine wpAnyH_take (i := 5) (v := .pointer (some ⟨sb, 0, none⟩)) rfl (by kernel_rfl) (by kernel_rfl) (by kernel_rfl) (fun _ _ _ h => h) (.inl ⟨rfl, fun W' hS => by obtain ⟨q0, q1, q2, q3, q4, q5⟩ := hS; go_simp⟩) hS0 ?_
    simp only [List.getElem_toArray, List.getElem_cons_zero, List.getElem_cons_succ, Act.put, List.setIfInBounds_toArray, List.set_cons_zero, List.set_cons_succ]
    refine wpAnyH_take (i := 6) (v := .pointer (some ⟨sb, 1, none⟩)) rfl (by kernel_rfl) (by kernel_rfl) (by kernel_rfl) (fun _ _ _ h => h) (.inl ⟨rfl, fun W' hS => by obtain ⟨q0, q1, q2, q3, q4, q5⟩ := hS; go_simp⟩) hS0 ?_
    simp only [List.getElem_toArray, List.getElem_cons_zero, List.getElem_cons_succ, Act.put, List.setIfInBounds_toArray, List.set_cons_zero, List.set_cons_succ]
    refine wpAnyH_take (i := 7) (v := .agg #[.int .i64 t.h.age, .int .i64 (t.h.half : Int), .int .i64 (t.h.used : Int)]) rfl (by kernel_rfl) (by kernel_rfl) (by kernel_rfl) (fun _ _ _ h => h) (.inl ⟨rfl, fun W' hS => by obtain ⟨q0, q1, q2, q3, q4, q5⟩ := hS; go_simp⟩) hS0 ?_
    simp only [List.getElem_toArray, List.getElem_cons_zero, List.getElem_cons_succ, Act.put, List.setIfInBounds_toArray, List.set_cons_zero, List.set_cons_succ]
    refine wpAnyH_take (i := 8) (v := .bool true) rfl (by kernel_rfl) (by kernel_rfl) (by kernel_rfl) (fun _ _ _ h => h) (.inl ⟨rfl, fun W' hS => by obtain ⟨q0, q1, q2, q3, q4, q5⟩ := hS; go_simp⟩) hS0 ?_
    simp only [List.getElem_toArray, List.getElem_cons_zero, List.getElem_cons_succ, Act.put, List.setIfInBounds_toArray, List.set_cons_zero, List.set_cons_succ]
    refine wpAnyH_take (i := 9) (v := .bool true) rfl (by kernel_rfl) (by kernel_rfl) (by kernel_rfl) (fun _ _ _ h => h) (.inl ⟨rfl, fun W' hS => by obtain ⟨q0, q1, q2, q3, q4, q5⟩ := hS; go_simp⟩) hS0 ?_
    simp only [List.getElem_toArray, List.getElem_cons_zero, List.getElem_cons_succ, Act.put, List.setIfInBounds_toArray, List.set_cons_zero, List.set_cons_succ]
    refine wpAnyH_take (i := 10) (v := .bool true) rfl (by kernel_rfl) (by kernel_rfl) (by kernel_rfl) (fun _ _ _ h => h) (.inl ⟨rfl, fun W' hS => by obtain ⟨q0, q1, q2, q3, q4, q5⟩ := hS; go_simp⟩) hS0 ?_
    simp only [List.getElem_toArray, List.getElem_cons_zero, List.getElem_cons_succ, Act.put, List.setIfInBounds_toArray, List.set_cons_zero, List.set_cons_succ]
    refine wpAnyH_take (i := 11) (v := .int .i64 (Sc : Int)) rfl (by kernel_rfl) (by kernel_rfl) (by kernel_rfl) (fun _ _ _ h => h) (.inl ⟨rfl, fun W' hS => by obtain ⟨q0, q1, q2, q3, q4, q5⟩ := hS; go_simp⟩) hS0 ?_
    simp only [List.getElem_toArray, List.getElem_cons_zero, List.getElem_cons_succ, Act.put, List.setIfInBounds_toArray, List.set_cons_zero, List.set_cons_succ]
    refine wpAnyH_take (i := 12) (v := .slice An nx.length cn) rfl (by kernel_rfl) (by kernel_rfl) (by kernel_rfl) (fun _ _ _ h => h) (.inl ⟨rfl, fun W' hS => by obtain ⟨q0, q1, q2, q3, q4, q5⟩ := hS; go_simp⟩) hS0 ?_
    simp only [List.getElem_toArray, List.getElem_cons_zero, List.getElem_cons_succ, Act.put, List.setIfInBounds_toArray, List.set_cons_zero, List.set_cons_succ]
    refine wpAnyH_all (rs := [13]) (by kernel_rfl) (by simp) ?_
    intro i hi
    obtain rfl : i = 13 := by simpa using hi
    refine wpOp_enter (f := 47) (args := #[.slice An nx.length cn]) rfl rfl (by go_simp) ?_
    refine hs2.mono ?_
    rintro e w4 ⟨rfl, hB4⟩
    refine ⟨_, rfl, ?_⟩
    have HB4 := Lib.hid (HB3d.out.trans (hB4.mono HB3d.out.size))
    have hS4 : w4.cell? ⟨w1.heap.size, 0, none⟩ = some (.int .i64 t.h.age) ∧ w4.cell? ⟨w1.heap.size, 1, none⟩ = some (.int .i64 (t.h.half : Int)) ∧ w4.cell? ⟨w1.heap.size, 2, none⟩ = some (.int .i64 (t.h.used : Int)) ∧ w4.cell? ⟨sb, 1, none⟩ = some (.int .i64 t.h.age) ∧ w4.cell? ⟨sb, 2, none⟩ = some (.int .i64 (t.h.half : Int)) ∧ w4.cell? ⟨sb, 3, none⟩ = some (.int .i64 (t.h.used : Int)) := ⟨HCB.out _ _ hb0 _ hB4, HCB.out _ _ hb1 _ hB4, HCB.out _ _ hb2 _ hB4, HCB.out _ _ ht1 _ hB4, HCB.out _ _ ht2 _ hB4, HCB.out _ _ ht3 _ hB4⟩
    clear hB4
    refine ⟨hS4, ?_⟩
    refine wpAnyH_take (i := 14) (v := .bool false) rfl (by kernel_rfl) (by kernel_rfl) (by kernel_rfl) (fun _ _ _ h => h) (.inl ⟨rfl, fun W' hS => by obtain ⟨q0, q1, q2, q3, q4, q5⟩ := hS; go_simp⟩) hS4 ?_
    simp only [List.getElem_toArray, List.getElem_cons_zero, List.getElem_cons_succ, Act.put, List.setIfInBounds_toArray, List.set_cons_zero, List.set_cons_succ]
    refine wpAnyH_take (i := 15) (v := .bool false) rfl (by kernel_rfl) (by kernel_rfl) (by kernel_rfl) (fun _ _ _ h => h) (.inl ⟨rfl, fun W' hS => by obtain ⟨q0, q1, q2, q3, q4, q5⟩ := hS; go_simp⟩) hS4 ?_
    simp only [List.getElem_toArray, List.getElem_cons_zero, List.getElem_cons_succ, Act.put, List.setIfInBounds_toArray, List.set_cons_zero, List.set_cons_succ]
    refine wpAnyH_take (i := 16) (v := .bool false) rfl (by kernel_rfl) (by kernel_rfl) (by kernel_rfl) (fun _ _ _ h => h) (.inl ⟨rfl, fun W' hS => by obtain ⟨q0, q1, q2, q3, q4, q5⟩ := hS; go_simp⟩) hS4 ?_
    simp only [List.getElem_toArray, List.getElem_cons_zero, List.getElem_cons_succ, Act.put, List.setIfInBounds_toArray, List.set_cons_zero, List.set_cons_succ]
    refine wpAnyH_take (i := 17) (v := undef) rfl (by kernel_rfl) (by kernel_rfl) (by kernel_rfl) (fun _ _ _ h => h) (.inr ⟨rfl, rfl⟩) hS4 ?_
    simp only [List.getElem_toArray, List.getElem_cons_zero, List.getElem_cons_succ, Act.put, List.setIfInBounds_toArray, List.set_cons_zero, List.set_cons_succ]
    refine wpAnyH_take (i := 18) (v := undef) rfl (by kernel_rfl) (by kernel_rfl) (by kernel_rfl) (fun _ _ _ h => h) (.inr ⟨rfl, rfl⟩) hS4 ?_
    simp only [List.getElem_toArray, List.getElem_cons_zero, List.getElem_cons_succ, Act.put, List.setIfInBounds_toArray, List.set_cons_zero, List.set_cons_succ]
    refine wpAnyH_take (i := 19) (v := undef) rfl (by kernel_rfl) (by kernel_rfl) (by kernel_rfl) (fun _ _ _ h => h) (.inr ⟨rfl, rfl⟩) hS4 ?_
    simp only [List.getElem_toArray, List.getElem_cons_zero, List.getElem_cons_succ, Act.put, List.setIfInBounds_toArray, List.set_cons_zero, List.set_cons_succ]
    refine wpAnyH_take (i := 20) (v := undef) rfl (by kernel_rfl) (by kernel_rfl) (by kernel_rfl) (fun _ _ _ h => h) (.inr ⟨rfl, rfl⟩) hS4 ?_
    simp only [List.getElem_toArray, List.getElem_cons_zero, List.getElem_cons_succ, Act.put, List.setIfInBounds_toArray, List.set_cons_zero, List.set_cons_succ]
    refine wpAnyH_take (i := 21) (v := undef) rfl (by kernel_rfl) (by kernel_rfl) (by kernel_rfl) (fun _ _ _ h => h) (.inr ⟨rfl, rfl⟩) hS4 ?_
    simp only [List.getElem_toArray, List.getElem_cons_zero, List.getElem_cons_succ, Act.put, List.setIfInBounds_toArray, List.set_cons_zero, List.set_cons_succ]
    refine wpAnyH_take (i := 22) (v := undef) rfl (by kernel_rfl) (by kernel_rfl) (by kernel_rfl) (fun _ _ _ h => h) (.inr ⟨rfl, rfl⟩) hS4 ?_
    simp only [List.getElem_toArray, List.getElem_cons_zero, List.getElem_cons_succ, Act.put, List.setIfInBounds_toArray, List.set_cons_zero, List.set_cons_succ]
    refine wpAnyH_take (i := 23) (v := undef) rfl (by kernel_rfl) (by kernel_rfl) (by kernel_rfl) (fun _ _ _ h => h) (.inr ⟨rfl, rfl⟩) hS4 ?_
    simp only [List.getElem_toArray, List.getElem_cons_zero, List.getElem_cons_succ, Act.put, List.setIfInBounds_toArray, List.set_cons_zero, List.set_cons_succ]
    refine wpAnyH_take (i := 24) (v := undef) rfl (by kernel_rfl) (by kernel_rfl) (by kernel_rfl) (fun _ _ _ h => h) (.inr ⟨rfl, rfl⟩) hS4 ?_
    simp only [List.getElem_toArray, List.getElem_cons_zero, List.getElem_cons_succ, Act.put, List.setIfInBounds_toArray, List.set_cons_zero, List.set_cons_succ]
    refine wpAnyH_take (i := 25) (v := undef) rfl (by kernel_rfl) (by kernel_rfl) (by kernel_rfl) (fun _ _ _ h => h) (.inr ⟨rfl, rfl⟩) hS4 ?_
    simp only [List.getElem_toArray, List.getElem_cons_zero, List.getElem_cons_succ, Act.put, List.setIfInBounds_toArray, List.set_cons_zero, List.set_cons_succ]
    refine wpAnyH_take (i := 26) (v := undef) rfl (by kernel_rfl) (by kernel_rfl) (by kernel_rfl) (fun _ _ _ h => h) (.inr ⟨rfl, rfl⟩) hS4 ?_
    simp only [List.getElem_toArray, List.getElem_cons_zero, List.getElem_cons_succ, Act.put, List.setIfInBounds_toArray, List.set_cons_zero, List.set_cons_succ]
    refine wpAnyH_take (i := 27) (v := .bool false) rfl (by kernel_rfl) (by kernel_rfl) (by kernel_rfl) (fun _ _ _ h => h) (.inl ⟨rfl, fun W' hS => by obtain ⟨q0, q1, q2, q3, q4, q5⟩ := hS; go_simp⟩) hS4 ?_
    simp only [List.getElem_toArray, List.getElem_cons_zero, List.getElem_cons_succ, Act.put, List.setIfInBounds_toArray, List.set_cons_zero, List.set_cons_succ]
    refine wpAnyH_take (i := 28) (v := .bool false) rfl (by kernel_rfl) (by kernel_rfl) (by kernel_rfl) (fun _ _ _ h => h) (.inl ⟨rfl, fun W' hS => by obtain ⟨q0, q1, q2, q3, q4, q5⟩ := hS; go_simp⟩) hS4 ?_
    simp only [List.getElem_toArray, List.getElem_cons_zero, List.getElem_cons_succ, Act.put, List.setIfInBounds_toArray, List.set_cons_zero, List.set_cons_succ]
    refine wpAnyH_done (by kernel_rfl) ?_ _
    go_wp2
    go_ret
    exact ⟨by rw [HDc.out]; rfl, HB4.out⟩
end Go.Proofs.YtmpklljiddggpaaGreatDoor

/-
  The walks of a store's Compact and Used; what a call on a store leaves. Conditions: each theorem's own premises.
-/
namespace Go.Proofs.YtmpklljiddggpaaGreatDoor
open Go.Shelf Go.RowKit Go.Lib Go.Sort
attribute [local go_sem] Oper.semAt_some

/-- A store in memory, on its disk. -/
structure Jr (w : World) (base g f m sb : Nat) (v : Value) (t : St) : Prop where
  dk : Dk w g f m t.s
  st : StAt w sb g t.h v
  own : OwnC w base v t.r
  sd : sb ≠ g ∧ sb ≠ f ∧ sb ≠ m
  ne : ∀ k, v.ownBlock = some k → k ∉ [g, f, m, sb]
theorem Jr.fr {w w' : World} {base g f m sb : Nat} {v : Value} {t : St} {S : List Nat} (h : Jr w base g f m sb v t) (k : Fr S w w') (hS : ∀ x ∈ S, x ∉ [g, f, m, sb] ∧ v.ownBlock ≠ some x) : Jr w' base g f m sb v t :=
  ⟨h.dk.fr k (fun hx => (hS _ hx).1 (by simp)) (fun hx => (hS _ hx).1 (by simp)) (fun hx => (hS _ hx).1 (by simp)), Blk.fr h.st k (fun hx => (hS _ hx).1 (by simp)), h.own.fr k (fun q hq hx => (hS q hx).2 hq), h.sd, h.ne⟩
theorem Jr.below {w w' : World} {base g f m sb : Nat} {v : Value} {t : St} (h : Jr w base g f m sb v t) (hb : Below w.heap.size w w') : Jr w' base g f m sb v t := h.fr ((Fr.refl [] w).belows hb (Nat.le_refl _)) (by simp)
theorem Jr.strs {w : World} {base g f m sb : Nat} {v : Value} {t : St} (h : Jr w base g f m sb v t) (hI : Inv' t) : StR w w.heap.size sb g t.h v t.r := by
  obtain ⟨A, c, e, hC, hz, h1, h2, _⟩ := h.own.chs
  exact ⟨h.st, Blk.lt h.st, ⟨A, c, e, hC, hz, h1, h2⟩, hI.recs.1, hI.few⟩
/-- What a call on a store leaves. -/
def RetCo (w : World) (base g f m sb : Nat) (aR aC aF aM : Addr) (x : Res × St) (e : Ending) (w' : World) : Prop :=
  ∃ m' v', (m' = m ∨ w.heap.size ≤ m') ∧ e = .returned (resV aR aC aF aM x.1) ∧ Fr [g, f, m, sb] w w' ∧ Jr w' base g f m' sb v' x.2
theorem RetCo.ret {w w' : World} {base g f m sb : Nat} {aR aC aF aM : Addr} {x : Res × St} {e : Ending} (H : RetCo w base g f m sb aR aC aF aM x e w') : ∃ u, e = .returned u := by
  obtain ⟨_, _, _, h, _⟩ := H
  exact ⟨_, h⟩
theorem RetCo.back {w w0 w' : World} {base g f m sb : Nat} {aR aC aF aM : Addr} {x : Res × St} {e : Ending} (H : RetCo w base g f m sb aR aC aF aM x e w') (hb : Below w0.heap.size w0 w) : RetCo w0 base g f m sb aR aC aF aM x e w' := by
  obtain ⟨m', v', h1, h2, h3, h4⟩ := H
  have := hb.size
  exact ⟨m', v', by omega, h2, ((Fr.refl [g, f, m, sb] w0).belows hb (Nat.le_refl _)).trans h3 (by simp), h4⟩
theorem RetRw.co {w w' : World} {base g f m sb : Nat} {v vn : Value} {aR aC aF aM : Addr} {x : Res × St} {e : Ending} {t : St} {nx : List Chg} (H : RetRw w g f m sb v vn aR aC aF aM x e w') (J : Jr w base g f m sb v t) (hv : OwnC w base vn nx) (hn : ∀ k, vn.ownBlock = some k → k ∉ [g, f, m, sb]) (h1 : x.1 = .fine → x.2.r = nx) (h2 : x.1 ≠ .fine → x.2.r = t.r) : RetCo w base g f m sb aR aC aF aM x e w' := by
  obtain ⟨m', a1, a2, a3, a4, a5⟩ := H
  have hsl := Blk.lt J.st
  have hsd := J.sd
  rcases a5 with ⟨hx, a5⟩ | ⟨hx, a5⟩
  · refine ⟨m', vn, a1, a4, a3, a2, a5, by rw [h1 hx]; exact hv.fr a3 hn, ⟨hsd.1, hsd.2.1, by omega⟩, fun k hk => ?_⟩
    have b1 := hn k hk
    have b2 := (hv.block k hk).2
    simp only [List.mem_cons, List.not_mem_nil, not_or, or_false] at b1 ⊢
    omega
  · refine ⟨m', v, a1, a4, a3, a2, a5, by rw [h2 hx]; exact J.own.fr a3 J.ne, ⟨hsd.1, hsd.2.1, by omega⟩, fun k hk => ?_⟩
    have b1 := J.ne k hk
    have b2 := (J.own.block k hk).2
    simp only [List.mem_cons, List.not_mem_nil, not_or, or_false] at b1 ⊢
    omega
theorem rewr_r (t : St) (nx : List Chg) : ((rewr t nx).1 = .fine → (rewr t nx).2.r = nx) ∧ ((rewr t nx).1 ≠ .fine → (rewr t nx).2.r = t.r) := by
  unfold rewr fin
  split
  · exact ⟨by simp, by simp⟩
  · split
    · exact ⟨by simp, by simp⟩
    · exact ⟨by simp, by simp⟩
/-- A disk, a store and the errors lie behind the variables. -/
def LowE (x : Nat) : Prop := 1 < x ∧ 3 < x ∧ 2 < x ∧ 0 < x

theorem rewrite_co (base g f m sb : Nat) (t : St) (v : Value) (vn : Value) (nx : List Chg) (w : World) (aE aS aR aC aF aM : Addr) (J : Jr w base g f m sb v t) (hB : Bd t) (he : Errs w aE aS aR) (hE : Es w aR aC aF aM) (hlow : LowE g) (hlf : LowE f)
    (hv : OwnC w base vn nx) (hn : ∀ k, vn.ownBlock = some k → k ∉ [g, f, m, sb]) (hok : ∀ c ∈ nx, OkC c) (hl : nx.length ≤ 1000000) :
    Calls Tryz.prog 29 #[.pointer (some ⟨sb, 0, none⟩), vn] w (RetCo w base g f m sb aR aC aF aM (rewr t nx)) := by
  obtain ⟨A, c, rfl, hC, _⟩ := hv.chs
  exact (rewrite_any g f m sb t v A c nx w aE aS aR aC aF aM J.dk J.st hB he hE hlow hlf hC hok hl J.sd).mono fun e w' H => H.co J hv hn (rewr_r t nx).1 (rewr_r t nx).2

set_option maxRecDepth 100000 in
set_option maxHeartbeats 1000000 in
theorem compact_any (base g f m sb : Nat) (t : St) (v : Value) (w : World) (aE aS aR aC aF aM : Addr) (J : Jr w base g f m sb v t) (hB : Bd t) (he : Errs w aE aS aR) (hE : Es w aR aC aF aM) (hlow : LowE g) (hlf : LowE f) :
    Calls Tryz.prog 14 #[.pointer (some ⟨sb, 0, none⟩)] w (RetCo w base g f m sb aR aC aF aM (rewr t t.r)) := by
  have hc := rewrite_co base g f m sb t v v t.r w aE aS aR aC aF aM J hB he hE hlow hlf J.own J.ne hB.inv.ok (by have := hB.inv.few; omega)
  have s4 : w.cell? ⟨sb, 4, none⟩ = some v := Blk.cell J.st 4
  obtain ⟨A, c, rfl, _⟩ := J.own.chs
  clear J hB he hE hlow hlf
  go_enter Tryz.func14, Tryz.ntmps14
  go_wp2_with fail
  refine hc.mono ?_
  intro e w1 h1
  obtain ⟨u, rfl⟩ := h1.ret
  have H1 := Lib.hid h1
  clear h1
  go_wp2
  go_ret
  exact H1.out
/-- What Used tells. -/
def usedN (h : Hd) : Nat := if h.used = 0 then 0 else 1 + h.used
end Go.Proofs.YtmpklljiddggpaaGreatDoor

/-
  The walk of a store's Commit. Conditions: each theorem's own premises.
-/
namespace Go.Proofs.YtmpklljiddggpaaGreatDoor
open Go.Shelf Go.RowKit Go.Lib Go.Sort
attribute [local go_sem] Oper.semAt_some

theorem lists_two {w : World} {A1 A2 : Option Addr} {c1 c2 : Nat} {l1 l2 : List Chg} (t : TypeId) (h1 : Chs w w.heap.size A1 l1) (hz1 : A1 = none → c1 = 0) (h2 : Chs w w.heap.size A2 l2) (hz2 : A2 = none → c2 = 0) :
    Lists (w.alloc (.cells #[.slice A1 l1.length c1, .slice A2 l2.length c2] t)) (w.alloc (.cells #[.slice A1 l1.length c1, .slice A2 l2.length c2] t)).heap.size (some ⟨w.heap.size, 0, none⟩) [⟨A1, c1, l1⟩, ⟨A2, c2, l2⟩] := by
  have hb : Below w.heap.size w (w.alloc (.cells #[.slice A1 l1.length c1, .slice A2 l2.length c2] t)) := (Below.refl _ w).alloc (Nat.le_refl _) _
  have hz : (w.alloc (.cells #[.slice A1 l1.length c1, .slice A2 l2.length c2] t)).heap.size = w.heap.size + 1 := by simp
  have hblk : Blk (w.alloc (.cells #[.slice A1 l1.length c1, .slice A2 l2.length c2] t)) w.heap.size t #[.slice A1 l1.length c1, .slice A2 l2.length c2] := heap_alloc_new w _
  refine ⟨fun i s hs => ⟨_, rfl, by rw [hz]; show w.heap.size < _; omega, ?_⟩, fun s hs => ?_⟩
  · match i, hs with
    | 0, hs =>
      simp at hs
      subst hs
      exact hblk.cell 0
    | 1, hs =>
      simp at hs
      subst hs
      exact hblk.cell 1
  · rcases List.mem_cons.1 hs with rfl | hs
    · exact ⟨(h1.below hb).more hb.size, hz1⟩
    · obtain rfl : s = ⟨A2, c2, l2⟩ := by simpa using hs
      exact ⟨(h2.below hb).more hb.size, hz2⟩
theorem eff_length (r l : List Chg) : (eff r l).length ≤ l.length := Nat.le_trans (List.length_filter_le _ _) (setl_length l)
theorem aft_length (l : List Chg) : (aft l).length ≤ l.length := Nat.le_trans (List.length_filter_le _ _) (setl_length l)
theorem next_ok {t : St} (H : Inv' t) {l : List Chg} (h1 : l.any badKey = false) (h2 : l.any badVal = false) : ∀ c ∈ aft (t.r ++ eff t.r l), OkC c := fun c hc => by
  rcases List.mem_append.1 (aft_mem hc) with h | h
  · exact H.ok c h
  · exact eff_ok h1 h2 c h
theorem fin_r (x : Bool × DS) (h h' : Hd) (r r' : List Chg) : ((fin x h h' r r').1 = .fine → (fin x h h' r r').2.r = r') ∧ ((fin x h h' r r').1 ≠ .fine → (fin x h h' r r').2.r = r) := by
  unfold fin
  split
  · exact ⟨by simp, by simp⟩
  · exact ⟨by simp, by simp⟩
theorem write_co (base g f m sb : Nat) (t : St) (v : Value) (vc vn : Value) (ch nx : List Chg) (w : World) (aR aC aF aM : Addr) (J : Jr w base g f m sb v t) (hB : Bd t) (hE : Es w aR aC aF aM) (hlow : LowE g) (hlf : LowE f)
    (hc : OwnC w base vc ch) (hv : OwnC w base vn nx) (hn : ∀ k, vn.ownBlock = some k → k ∉ [g, f, m, sb]) (hok : ∀ c ∈ ch, OkC c) (hl : ch.length ≤ 1000000) (hroom : t.h.used + secs ch ≤ roomN t.s.kept.length) :
    Calls Tryz.prog 28 #[.pointer (some ⟨sb, 0, none⟩), hdV t.h, vc, vn] w (RetCo w base g f m sb aR aC aF aM (fin (putP t.s t.h ch) t.h (nextH t.h ch) t.r nx)) := by
  obtain ⟨Ac, cc, rfl, hC, _⟩ := hc.chs
  obtain ⟨An, cn, rfl, _⟩ := hv.chs
  obtain ⟨L, hH, _⟩ := hB.inv.has
  have := hB.inv.age
  have := hB.calls
  exact (write_any g f m sb t.s t.h t.h v _ Ac cc ch w aR aC aF aM J.dk J.st hE hlow hlf hC hok hl hH.half hroom ⟨hH.age, by omega⟩ hB.arm hB.calls J.sd An nx.length cn rfl).mono fun e w' H => (RetWr.fin (r := t.r) (r' := nx) H).co J hv hn (fin_r _ _ _ _ _).1 (fin_r _ _ _ _ _).2

set_option maxRecDepth 100000 in
set_option maxHeartbeats 4000000 in
theorem commit_any (base g f m sb : Nat) (t : St) (v : Value) (A : Option Addr) (c : Nat) (l : List Chg) (w : World) (aE aS aR aC aF aM : Addr) (J : Jr w base g f m sb v t) (hB : Bd t) (he : Errs w aE aS aR) (hE : Es w aR aC aF aM) (hlow : LowE g) (hlf : LowE f) (hb : base ≤ w.heap.size)
    (hC : Chs w w.heap.size A l) (hz : A = none → c = 0) (hl : l.length ≤ 100000) :
    Calls Tryz.prog 11 #[.pointer (some ⟨sb, 0, none⟩), .slice A l.length c] w (RetCo w base g f m sb aR aC aF aM (comm t l)) := by
  have hck := check_any A c l w aR aC aF aM hE hC (by omega)
  have hfew := hB.inv.few
  by_cases k1 : l.any badKey = true
  · have hco : comm t l = (.range, t) := by unfold comm; rw [if_pos k1]
    have hcv : chk l = .range := by unfold chk; rw [if_pos k1]
    rw [hco]
    rw [hcv] at hck
    unfold resV at hck
    have HJ := Lib.hid J
    clear J hB he hE hlow hlf hC hz
    go_enter Tryz.func11, Tryz.ntmps11
    go_wp2_with fail
    refine hck.mono ?_
    rintro e w1 ⟨rfl, hB1⟩
    have HB1 := Lib.hid hB1
    clear hB1
    go_wp2
    go_ret
    exact ⟨m, v, .inl rfl, rfl, (Fr.refl _ w).belows HB1.out (Nat.le_refl _), HJ.out.below HB1.out⟩
  by_cases k2 : l.any badVal = true
  · have hco : comm t l = (.many, t) := by unfold comm; rw [if_neg k1, if_pos k2]
    have hcv : chk l = .many := by unfold chk; rw [if_neg k1, if_pos k2]
    rw [hco]
    rw [hcv] at hck
    unfold resV at hck
    have HJ := Lib.hid J
    clear J hB he hE hlow hlf hC hz
    go_enter Tryz.func11, Tryz.ntmps11
    go_wp2_with fail
    refine hck.mono ?_
    rintro e w1 ⟨rfl, hB1⟩
    have HB1 := Lib.hid hB1
    clear hB1
    go_wp2
    go_ret
    exact ⟨m, v, .inl rfl, rfl, (Fr.refl _ w).belows HB1.out (Nat.le_refl _), HJ.out.below HB1.out⟩
  have k1' : l.any badKey = false := by simpa using k1
  have k2' : l.any badVal = false := by simpa using k2
  have hcv : chk l = .fine := by unfold chk; rw [if_neg k1, if_neg k2]
  have hel := eff_length t.r l
  have hal := aft_length (t.r ++ eff t.r l)
  rw [List.length_append] at hal
  have HOe := Lib.hid (eff_ok (r := t.r) k1' k2')
  have HOn := Lib.hid (next_ok hB.inv k1' k2')
  rw [hcv] at hck
  unfold resV at hck
  have hefn : (eff t.r l).length = 0 ↔ eff t.r l = [] := List.length_eq_zero_iff
  have HCo := Lib.hid (show comm t l = if 256 < (aft (t.r ++ eff t.r l)).length then (.many, t) else if (eff t.r l).length = 0 then (.fine, t) else if secs (eff t.r l) < secs (aft (t.r ++ eff t.r l)) ∧ t.h.used + secs (eff t.r l) ≤ roomN t.s.kept.length then fin (putP t.s t.h (eff t.r l)) t.h (nextH t.h (eff t.r l)) t.r (aft (t.r ++ eff t.r l)) else rewr t (aft (t.r ++ eff t.r l)) by
    unfold comm
    rw [if_neg k1, if_neg k2]
    simp only [hefn])
  have HJ := Lib.hid J
  have HBd := Lib.hid hB
  have He := Lib.hid he
  have HE := Lib.hid hE
  have HC := Lib.hid hC
  have HZ := Lib.hid hz
  clear J hB he hE hC hz k1 k2 k1' k2' hcv hefn
  generalize hch : eff t.r l = ch at *
  have HCh := Lib.hid hch
  clear hch
  go_enter Tryz.func11, Tryz.ntmps11
  go_wp2_with fail
  refine hck.mono ?_
  rintro e w1 ⟨rfl, hB1⟩
  have hef := effective_any sb g t.h v t.r l A c w1 ((HJ.out.below hB1).strs HBd.out.inv) ((HC.out.below hB1).more hB1.size) HZ.out (by omega)
  rw [HCh.out] at hef
  have HB1 := Lib.hid hB1
  have hw1 := hB1.size
  clear hB1 hck
  go_wp2_with fail
  refine hef.mono ?_
  rintro e w2 ⟨v2, rfl, hO2, hB2⟩
  have hB02 := HB1.out.trans (hB2.mono hw1)
  have hJ2 := HJ.out.below hB02
  have s4 : w2.cell? ⟨sb, 4, none⟩ = some v := Blk.cell hJ2.st 4
  obtain ⟨Ar, cr, hv, hCr, hzr, _⟩ := hJ2.own.chs
  obtain ⟨A2, c2, hv2, hC2, hz2, _⟩ := hO2.chs
  subst hv
  subst hv2
  have hLs := lists_two 35 hCr hzr hC2 hz2
  have haf := after_any (some ⟨w2.heap.size, 0, none⟩) 2 2 _ _ rfl hLs (by simp [flat]; omega) (by omega)
  rw [show flat [⟨Ar, cr, t.r⟩, ⟨A2, c2, ch⟩] = t.r ++ ch by simp [flat]] at haf
  have hB23 : Below w2.heap.size w2 (w2.alloc (.cells #[.slice Ar t.r.length cr, .slice A2 ch.length c2] 35)) := (Below.refl _ w2).alloc (Nat.le_refl _) _
  have hw2 := hB02.size
  have HJ2 := Lib.hid hJ2
  have HO2 := Lib.hid hO2
  have HB02 := Lib.hid hB02
  have HB23 := Lib.hid hB23
  have hw12 := hB2.size
  clear hO2 hB2 hB02 hJ2 hCr hzr hC2 hz2 hLs hB23 hef
  go_wp2_with fail
  refine haf.mono ?_
  rintro e w4 ⟨v4, rfl, hO4, hB4⟩
  have hB24 := HB23.out.trans (hB4.mono HB23.out.size)
  have hw4 := hB24.size
  have hJ4 := HJ2.out.below hB24
  have hB04 := HB02.out.trans (hB24.mono hw2)
  have HO2' := Lib.hid ((HO2.out.below hB24 (Nat.le_refl _)).mono (b' := w.heap.size) hw1)
  have HO4 := Lib.hid (hO4.mono (b' := w.heap.size) (Nat.le_trans hw2 HB23.out.size))
  have hgM : w4.cell? ⟨0, 0, none⟩ = some (.iface 190 (.pointer (some aM))) := cell_below HE.out.m hB04 (Nat.le_refl _)
  have HJ4 := Lib.hid hJ4
  have HB04 := Lib.hid hB04
  generalize hnx : aft (t.r ++ ch) = nx at *
  obtain ⟨A4, c4, rfl, _⟩ := HO4.out.chs
  have hw04 := hB04.size
  clear haf hB4 hO4 hB24 hJ4 HB23 hB04 s4 hnx HO2
  by_cases d1 : 256 < nx.length
  · have d1I : (256 : Int) < (nx.length : Int) := by omega
    go_wp2
    go_ret
    rw [HCo.out, if_pos d1]
    exact ⟨m, _, .inl rfl, rfl, (Fr.refl _ w).belows HB04.out (Nat.le_refl _), HJ4.out⟩
  have d1I : ¬ (256 : Int) < (nx.length : Int) := by omega
  by_cases d2 : ch.length = 0
  · have d2I : (ch.length : Int) = 0 := by omega
    go_wp2
    go_ret
    rw [HCo.out, if_neg d1, if_pos d2]
    exact ⟨m, _, .inl rfl, rfl, (Fr.refl _ w).belows HB04.out (Nat.le_refl _), HJ4.out⟩
  have d2I : ¬ (ch.length : Int) = 0 := by omega
  have hC2 : Chs w4 w4.heap.size A2 ch := by obtain ⟨_, _, e, hC, _⟩ := HO2'.out.chs; cases e; exact hC
  have hC4 : Chs w4 w4.heap.size A4 nx := by obtain ⟨_, _, e, hC, _⟩ := HO4.out.chs; cases e; exact hC
  have hap := appends_any g f m sb t _ A2 A4 c2 c4 ch nx w4 aE aS aR HJ4.out.dk HJ4.out.st HBd.out (He.out.below HB04.out (Nat.le_refl _)) hC2 hC4 HOe.out HOn.out (by omega) (by omega)
  have hlt := And.intro HJ.out.dk.gl (And.intro HJ.out.dk.fl (And.intro HJ.out.dk.ml (Blk.lt HJ.out.st)))
  have hnn : ∀ (u : Value) (q : List Chg), OwnC w4 w.heap.size u q → ∀ k, u.ownBlock = some k → k ∉ [g, f, m, sb] := fun u q hu k hk => by
    have := (hu.block k hk).1
    simp only [List.mem_cons, List.not_mem_nil, not_or, or_false]
    omega
  have HNn := Lib.hid (hnn _ _ HO4.out)
  clear hC2 hC4 hnn hgM
  by_cases d3 : secs ch < secs nx ∧ t.h.used + secs ch ≤ roomN t.s.kept.length
  · rw [decide_eq_true d3] at hap
    have HD3 := Lib.hid d3
    clear d3
    go_wp2_with fail
    refine hap.mono ?_
    rintro e w5 ⟨rfl, hB5⟩
    have hJ5 := HJ4.out.below hB5
    have hB05 := HB04.out.trans (hB5.mono hw04)
    have t1 : w5.cell? ⟨sb, 1, none⟩ = some (.int .i64 t.h.age) := Blk.cell hJ5.st 1
    have t2 : w5.cell? ⟨sb, 2, none⟩ = some (.int .i64 (t.h.half : Int)) := Blk.cell hJ5.st 2
    have t3 : w5.cell? ⟨sb, 3, none⟩ = some (.int .i64 (t.h.used : Int)) := Blk.cell hJ5.st 3
    have hwr := write_co base g f m sb t _ _ _ ch nx w5 aR aC aF aM hJ5 HBd.out (HE.out.fr ((Fr.refl [] w).belows hB05 (Nat.le_refl _)) (by simp)) hlow hlf ((HO2'.out.below hB5 (Nat.le_refl _)).mono hb) ((HO4.out.below hB5 (Nat.le_refl _)).mono hb) HNn.out HOe.out (by omega) HD3.out.2
    have hwq := hwr.mono fun _ _ hx => RetCo.back hx hB05
    have hQ := HCo.out
    rw [if_neg d1, if_neg d2, if_pos HD3.out] at hQ
    rw [← hQ] at hwq
    unfold hdV at hwq
    clear hap hB5 hJ5 hB05 hwr hQ
    go_wp2_with fail
    refine hwq.mono ?_
    intro e w6 h6
    obtain ⟨u, rfl⟩ := h6.ret
    have H6 := Lib.hid h6
    clear h6
    go_wp2
    go_ret
    exact H6.out
  · rw [decide_eq_false d3] at hap
    have HD3 := Lib.hid d3
    clear d3
    go_wp2_with fail
    refine hap.mono ?_
    rintro e w5 ⟨rfl, hB5⟩
    have hJ5 := HJ4.out.below hB5
    have hB05 := HB04.out.trans (hB5.mono hw04)
    have hwr := rewrite_co base g f m sb t _ _ nx w5 aE aS aR aC aF aM hJ5 HBd.out (He.out.below hB05 (Nat.le_refl _)) (HE.out.fr ((Fr.refl [] w).belows hB05 (Nat.le_refl _)) (by simp)) hlow hlf ((HO4.out.below hB5 (Nat.le_refl _)).mono hb) HNn.out HOn.out (by omega)
    have hwq := hwr.mono fun _ _ hx => RetCo.back hx hB05
    have hQ := HCo.out
    rw [if_neg d1, if_neg d2, if_neg HD3.out] at hQ
    rw [← hQ] at hwq
    clear hap hB5 hJ5 hB05 hwr hQ
    go_wp2_with fail
    refine hwq.mono ?_
    intro e w6 h6
    obtain ⟨u, rfl⟩ := h6.ret
    have H6 := Lib.hid h6
    clear h6
    go_wp2
    go_ret
    exact H6.out
end Go.Proofs.YtmpklljiddggpaaGreatDoor

/-
  Words for memory: a slice that reads as a list, a row that the call itself owns, whatever the elements. Conditions: none.
-/
namespace Go.Proofs.YtmpklljiddggpaaGreatDoor
open Go.Shelf Go.RowKit Go.Lib Go.Sort

/-- How elements lie: their type, their cells. -/
structure Lie (α : Type) where
  ty : TypeId
  n : Nat
  enc : α → List Value
  len : ∀ a, (enc a).length = n
  one : ∀ a, ∀ u ∈ enc a, u.oneCell' = true
def Lie.cells {α : Type} (L : Lie α) (l : List α) : List Value := l.flatMap L.enc
section
variable {α : Type} {L : Lie α} {w w' : World} {B B' base : Nat} {A : Option Addr} {l : List α} {S : List Nat} {v : Value}
theorem Lie.cells_length (L : Lie α) (l : List α) : (L.cells l).length = l.length * L.n := by
  induction l with
  | nil => simp [Lie.cells]
  | cons c r ih =>
    rw [Lie.cells, List.flatMap_cons, List.length_append, L.len, List.length_cons, Nat.succ_mul]
    rw [Lie.cells] at ih
    omega
theorem Lie.cells_append (L : Lie α) (a b : List α) : L.cells (a ++ b) = L.cells a ++ L.cells b := List.flatMap_append
theorem Lie.cells_one (L : Lie α) (l : List α) : ∀ u ∈ L.cells l, u.oneCell' = true := fun u hu => by
  obtain ⟨a, _, h⟩ := List.mem_flatMap.1 hu
  exact L.one a u h
theorem Lie.cells_at (L : Lie α) : ∀ (l : List α) (i : Nat) (hi : i < l.length) (j : Nat) (_ : j < L.n), (L.cells l)[i * L.n + j]? = (L.enc l[i])[j]?
  | c :: r, 0, _, j, hj => by
    show (L.enc c ++ L.cells r)[0 * L.n + j]? = (L.enc c)[j]?
    rw [List.getElem?_append_left (by rw [L.len]; omega), show 0 * L.n + j = j by omega]
  | c :: r, i + 1, hi, j, hj => by
    have := Lie.cells_at L r i (by simpa using hi) j hj
    show (L.enc c ++ L.cells r)[(i + 1) * L.n + j]? = (L.enc (r[i]'(by simpa using hi)))[j]?
    rw [List.getElem?_append_right (by rw [L.len, Nat.succ_mul]; omega), L.len, Nat.succ_mul, show i * L.n + L.n + j - L.n = i * L.n + j by omega]
    exact this
/-- The slice at A holds these, in a block below B. -/
structure Rw (L : Lie α) (w : World) (B : Nat) (A : Option Addr) (l : List α) : Prop where
  here : l ≠ [] → ∃ ad, A = some ad ∧ ad.block < B ∧ ∀ j u, (L.cells l)[j]? = some u → w.cell? (ad.add j) = some u
theorem Rw.nil : Rw L w B A [] := ⟨fun h => absurd rfl h⟩
theorem Rw.pick (h : Rw L w B A l) {k : Nat} (hk : k < l.length) : ∃ ad, A = some ad ∧ ad.block < B ∧ ∀ j u, (L.enc l[k])[j]? = some u → w.cell? (ad.add (k * L.n + j)) = some u := by
  obtain ⟨ad, e, hb, hc⟩ := h.here (by rintro rfl; simp at hk)
  refine ⟨ad, e, hb, fun j u hu => hc _ _ ?_⟩
  have hj : j < L.n := by rw [← L.len l[k]]; exact (List.getElem?_eq_some_iff.1 hu).1
  rw [L.cells_at l k hk j hj]
  exact hu
theorem Rw.keep (h : Rw L w B A l) (hk : ∀ p : Addr, p.block < B → w'.cell? p = w.cell? p) : Rw L w' B A l :=
  ⟨fun hn => by
    obtain ⟨ad, e, hb, hc⟩ := h.here hn
    exact ⟨ad, e, hb, fun j u hu => (hk _ (by rw [add_block]; exact hb)).trans (hc j u hu)⟩⟩
theorem Rw.more (h : Rw L w B A l) (hB : B ≤ B') : Rw L w B' A l :=
  ⟨fun hn => by
    obtain ⟨ad, e, hb, hc⟩ := h.here hn
    exact ⟨ad, e, by omega, hc⟩⟩
theorem Rw.below (h : Rw L w B A l) (hb : Below B w w') : Rw L w' B A l := h.keep fun _ hp => hb.cell hp
theorem Rw.fr (h : Rw L w B A l) (f : Fr S w w') (hB : B ≤ w.heap.size) (hS : ∀ ad, A = some ad → ad.block < B → ad.block ∉ S) : Rw L w' B A l :=
  ⟨fun hn => by
    obtain ⟨ad, rfl, hb, hc⟩ := h.here hn
    exact ⟨ad, rfl, hb, fun j u hu => (World.cell?_of_block (a := ad.add j) (f.block _ (by rw [add_block]; omega) (by rw [add_block]; exact hS ad rfl hb))).trans (hc j u hu)⟩⟩
theorem Rw.take (h : Rw L w B A l) (k : Nat) : Rw L w B A (l.take k) :=
  ⟨fun hn => by
    obtain ⟨ad, e, hb, hc⟩ := h.here (by rintro rfl; simp at hn)
    refine ⟨ad, e, hb, fun j u hu => hc j u ?_⟩
    have : L.cells l = L.cells (l.take k) ++ L.cells (l.drop k) := by rw [← L.cells_append, List.take_append_drop]
    rw [this, List.getElem?_append_left (List.getElem?_eq_some_iff.1 hu).1]
    exact hu⟩
/-- The call's own row. -/
def Ow (L : Lie α) (w : World) (base : Nat) (v : Value) (l : List α) : Prop := w.ownsRow base L.ty L.n v l.length (L.cells l)
theorem Ow.form (h : Ow L w base v l) : (v = .slice none 0 0 ∧ l = []) ∨ ∃ g cap cs, v = .slice (some ⟨g, 0, none⟩) l.length cap ∧ base ≤ g ∧ Blk w g L.ty cs ∧ l.length ≤ cap ∧ cap ≤ maxLen ∧ cs.size = cap * L.n ∧ cs.toList.take (l.length * L.n) = L.cells l := by
  rcases h.2 with ⟨hv, hn⟩ | ⟨g, cap, cur, hv, hb, hg, h1, h2, h3, h4⟩
  · exact .inl ⟨hv, List.eq_nil_of_length_eq_zero hn⟩
  · exact .inr ⟨g, cap, cur, hv, hb, hg, h1, h2, h3, h4⟩
theorem Ow.nil (L : Lie α) (w : World) (base : Nat) : Ow L w base (.slice none 0 0) [] := ⟨by simp [Lie.cells], .inl ⟨rfl, rfl⟩⟩
theorem Ow.of {g cap : Nat} {cs : Array Value} (hb : base ≤ g) (hg : Blk w g L.ty cs) (h1 : l.length ≤ cap) (h2 : cap ≤ maxLen) (h3 : cs.size = cap * L.n) (h4 : cs.toList.take (l.length * L.n) = L.cells l) : Ow L w base (.slice (some ⟨g, 0, none⟩) l.length cap) l :=
  ⟨L.cells_length l, .inr ⟨g, cap, cs, rfl, hb, hg, h1, h2, h3, h4⟩⟩
theorem Ow.rw (h : Ow L w base v l) : ∃ A c, v = .slice A l.length c ∧ Rw L w w.heap.size A l ∧ (A = none → c = 0) ∧ l.length ≤ c ∧ c ≤ maxLen ∧ (∀ ad, A = some ad → ad = ⟨ad.block, 0, none⟩ ∧ base ≤ ad.block ∧ ad.block < w.heap.size) := by
  rcases h.form with ⟨rfl, rfl⟩ | ⟨g, cap, cs, rfl, hb, hg, h1, h2, h3, h4⟩
  · exact ⟨none, 0, rfl, Rw.nil, fun _ => rfl, Nat.le_refl _, by simp [maxLen], fun ad e => by cases e⟩
  · refine ⟨_, cap, rfl, ⟨fun _ => ⟨_, rfl, hg.lt, fun j u hu => ?_⟩⟩, (fun e => by cases e), h1, h2, fun ad e => by cases e; exact ⟨rfl, hb, hg.lt⟩⟩
    rw [lit_add, hg.cell]
    rw [← h4, List.getElem?_take] at hu
    split at hu
    · simpa using hu
    · cases hu
theorem Ow.keep (h : Ow L w base v l) (hk : ∀ g, v.ownBlock = some g → w'.heap[g]? = w.heap[g]?) : Ow L w' base v l := by
  rcases h.form with ⟨rfl, rfl⟩ | ⟨g, cap, cs, rfl, hb, hg, h1, h2, h3, h4⟩
  · exact Ow.nil _ _ _
  · exact Ow.of hb ((hk g rfl).trans hg) h1 h2 h3 h4
theorem Ow.block (h : Ow L w base v l) : ∀ k, v.ownBlock = some k → base ≤ k ∧ k < w.heap.size := by
  intro k hk
  rcases h.form with ⟨rfl, rfl⟩ | ⟨g, cap, cs, rfl, hb, hg, _⟩
  · cases hk
  · cases hk
    exact ⟨hb, hg.lt⟩
theorem Ow.below (h : Ow L w base v l) (hb : Below B w w') (hB : w.heap.size ≤ B) : Ow L w' base v l := h.keep fun g hg => hb.block g (by have := (h.block g hg).2; omega)
theorem Ow.mono {b' : Nat} (h : Ow L w base v l) (hb : b' ≤ base) : Ow L w b' v l := by
  rcases h.form with ⟨rfl, rfl⟩ | ⟨g, cap, cs, rfl, hg0, hg, h1, h2, h3, h4⟩
  · exact Ow.nil _ _ _
  · exact Ow.of (by omega) hg h1 h2 h3 h4
theorem Ow.fr (h : Ow L w base v l) (f : Fr S w w') (hS : ∀ k, v.ownBlock = some k → k ∉ S) : Ow L w' base v l := h.keep fun g hg => f.block g (h.block g hg).2 (hS g hg)

/-- What a program says of a type of slices and of its elements. -/
structure LieAt (P : Program) (t : TypeId) (L : Lie α) : Prop where
  under : P.underlying t = some (.slice L.ty)
  info : ∃ i z, P.info? L.ty = some i ∧ i.zero = some z ∧ i.size = L.n ∧ i.bytes ≤ 64 ∧ z.cells.size = L.n
  pos : 0 < L.n
/-- append(own, others...): nil or not. -/
theorem append_ow {P : Program} {t : TypeId} (H : LieAt P t L) {l2 : List α} {n c : Nat} (h : Ow L w base v l) (hc : Rw L w B A l2) (hn : n = l2.length) (hz : A = none → c = 0) (hle : l.length + l2.length ≤ 1099511627776) (hb : base ≤ w.heap.size) :
    ∃ v' w', (∀ ty, (Builtin.append_ #[t, t] ty #[v, .slice A n c]).run P w = .ok v' w') ∧ Ow L w' base v' (l ++ l2) ∧ w.grownBy w' v.ownBlock := by
  obtain ⟨i, z, hi, hzr, hsz, hsm, hzs⟩ := H.info
  have hu := H.under
  subst hn
  rcases A with _ | ad
  · have hl0 : l2 = [] := by
      rcases l2 with _ | ⟨u, l2⟩
      · rfl
      · obtain ⟨ad, h, _⟩ := hc.here (by simp)
        cases h
    subst hl0
    rw [hz rfl]
    refine ⟨v, w, fun ty => ?_, by simpa using h, World.grownBy.refl w _⟩
    rcases h.form with ⟨rfl, rfl⟩ | ⟨g, cap, cs, rfl, _, _, h1, _⟩
    · simp [Builtin.append_, run_underlying hu, sizeOf, typeInfo, hi, Builtin.lenOf, Builtin.firstCells]
    · simp [Builtin.append_, run_underlying hu, sizeOf, typeInfo, hi, Builtin.lenOf, Builtin.firstCells, h1, storeCells]
  · have hmul : (l.length + l2.length) * i.bytes ≤ 1099511627776 * 64 := Nat.mul_le_mul hle hsm
    have go := run_append_own_at (P := P) w base t 0 L.ty i z L.n i.bytes hu hi hzr hsz rfl hzs H.pos v l.length (L.cells l) h ad l2.length c (L.cells l2) (L.cells_length l2)
      (fun j u hu => by
        obtain ⟨ad', e, _, hc⟩ := hc.here (by rintro rfl; simp [Lie.cells] at hu)
        cases e
        exact hc j u hu) (L.cells_one l2) (by simp [maxLen]; omega) (by omega) hb
    obtain ⟨v', w', hrun, ho, hg, _, _⟩ := go
    refine ⟨v', w', fun ty => hrun, ?_, hg⟩
    unfold Ow
    rw [List.length_append, L.cells_append]
    exact ho
/-- One more, out of a slice built for it. -/
theorem append_ow_one {P : Program} {t : TypeId} (H : LieAt P t L) (x : α) (h : Ow L w base v l) (hle : l.length < 1099511627776) (hb : base ≤ w.heap.size) :
    ∃ v' w', (∀ ty, (Builtin.append_ #[t, t] ty #[v, .slice (some ⟨w.heap.size, 0, none⟩) 1 1]).run P (w.alloc (.cells (L.enc x).toArray L.ty)) = .ok v' w') ∧ Ow L w' base v' (l ++ [x]) ∧ Below base w w' ∧ (∀ B, B ≤ w.heap.size → (∀ k, v.ownBlock = some k → B ≤ k) → Below B w w') := by
  have hO : Ow L (w.alloc (.cells (L.enc x).toArray L.ty)) base v l := h.keep fun g hg => Below.heap_alloc w _ g (h.block g hg).2
  have hC : Rw L (w.alloc (.cells (L.enc x).toArray L.ty)) (w.heap.size + 1) (some ⟨w.heap.size, 0, none⟩) [x] :=
    ⟨fun _ => ⟨_, rfl, by simp, fun j u hu => by
      rw [lit_add]
      have hB : Blk (w.alloc (.cells (L.enc x).toArray L.ty)) w.heap.size _ _ := heap_alloc_new w _
      rw [hB.cell j]
      simpa [Lie.cells] using hu⟩⟩
  obtain ⟨v', w', hrun, hO', hg⟩ := append_ow H (n := 1) (c := 1) hO hC rfl (fun e => by cases e) (by simp; omega) (by simp; omega)
  have hB : ∀ B, B ≤ w.heap.size → (∀ k, v.ownBlock = some k → B ≤ k) → Below B w w' := fun B hB hk => (((Below.refl B w).alloc hB _).grown hg (by simp; omega) hk)
  exact ⟨v', w', hrun, hO', hB base hb fun k hk => (h.block k hk).1, hB⟩
end

/-- A text, as a value. -/
def txt (k : List UInt8) : Value := .string ⟨k.toArray⟩
/-- Texts. -/
def LT : Lie (List UInt8) := ⟨9, 1, fun k => [txt k], fun _ => rfl, fun _ u hu => by obtain rfl := List.mem_singleton.1 hu; rfl⟩
theorem LTat : LieAt Tryz.prog 49 LT := by
  have h : (Tryz.prog.info? 9).map (fun i => (i.zero, i.size, i.bytes)) = some (some (.string ⟨#[]⟩), 1, 16) := by kernel_rfl
  obtain ⟨i0, hi, hz0, hz1, hz2⟩ := info_parts h
  exact ⟨Tryz.underlying49, ⟨i0, _, hi, hz0, hz1, by omega, rfl⟩, by show 0 < 1; omega⟩
/-- Two texts: a record of the statements. -/
def LR : Lie (List UInt8 × List UInt8) := ⟨78, 2, fun k => [txt k.1, txt k.2], fun _ => rfl, fun _ u hu => by
  rcases List.mem_cons.1 hu with rfl | hu
  · rfl
  · obtain rfl := List.mem_singleton.1 hu
    rfl⟩
theorem LRat : LieAt Tryz.prog 30 LR := by
  have h : (Tryz.prog.info? 78).map (fun i => (i.zero, i.size, i.bytes)) = some (some (.agg #[.string ⟨#[]⟩, .string ⟨#[]⟩]), 2, 32) := by kernel_rfl
  obtain ⟨i0, hi, hz0, hz1, hz2⟩ := info_parts h
  exact ⟨Tryz.underlying30, ⟨i0, _, hi, hz0, hz1, by omega, rfl⟩, by show 0 < 2; omega⟩
end Go.Proofs.YtmpklljiddggpaaGreatDoor

/-
  The walk of a store's Keys. Conditions: each theorem's own premises.
-/
namespace Go.Proofs.YtmpklljiddggpaaGreatDoor
open Go.Shelf Go.RowKit Go.Lib Go.Sort

def keysL (r : List Chg) : List (List UInt8) := r.map (·.key)
set_option maxRecDepth 100000 in
set_option maxHeartbeats 1000000 in
theorem keys_any (sb g : Nat) (h : Hd) (A : Option Addr) (c B : Nat) (r : List Chg) (w : World) (hS : StAt w sb g h (.slice A r.length c)) (hC : Chs w B A r) (hB : B ≤ w.heap.size) (hl : r.length ≤ 256) :
    Calls Tryz.prog 19 #[.pointer (some ⟨sb, 0, none⟩)] w fun e w' => ∃ v, e = .returned v ∧ Ow LT w' w.heap.size v (keysL r) ∧ Below w.heap.size w w' := by
  have s4 : w.cell? ⟨sb, 4, none⟩ = some (.slice A r.length c) := Blk.cell hS 4
  have HC := Lib.hid (hC.more hB)
  clear hS hC hB
  go_enter Tryz.func19, Tryz.ntmps19
  go_wp2
  go_loopg [3, 5, 11] r.length (fun kx s3 s5 s11 wr => ∃ (k : Nat), s11 = .int .i64 k ∧ k ≤ r.length ∧ r.length - k ≤ kx ∧ Hid (Ow LT wr w.heap.size s3 (keysL (r.take k))) ∧ Hid (Below w.heap.size w wr))
  case atStart => exact ⟨0, rfl, by omega, by omega, Lib.hid (Ow.nil _ _ _), Lib.hid (Below.refl _ _)⟩
  case round =>
    obtain ⟨k, rfl, hkm, hkx, HO, HB⟩ := hrel
    by_cases hlt : k < r.length
    · have hltI : (k : Int) < r.length := by omega
      obtain ⟨ad, rfl, hbl, p0, p1, p2⟩ := (HC.out.below HB.out).pick hlt
      have hbw : w.heap.size ≤ wr.heap.size := HB.out.size
      have HT := Lib.hid (show keysL (r.take (k + 1)) = keysL (r.take k) ++ [r[k].key] by unfold keysL; rw [List.take_succ_eq_append_getElem hlt, List.map_append]; rfl)
      have HL := Lib.hid (show (keysL (r.take k)).length ≤ 256 by unfold keysL; simp; omega)
      generalize r[k] = x at *
      go_upto_region 5 with (fail)
      have h3B : Below wr.heap.size wr (wr.alloc (.cells #[.string ⟨x.key.toArray⟩, .string ⟨x.val.toArray⟩, .bool x.gone] 55)) := (Below.refl _ wr).alloc (Nat.le_refl _) _
      have h3b : Blk (wr.alloc (.cells #[.string ⟨x.key.toArray⟩, .string ⟨x.val.toArray⟩, .bool x.gone] 55)) wr.heap.size 55 #[.string ⟨x.key.toArray⟩, .string ⟨x.val.toArray⟩, .bool x.gone] := heap_alloc_new wr _
      have HO3 := Lib.hid (HO.out.below h3B (Nat.le_refl _))
      have HB3 := Lib.hid (HB.out.trans (h3B.mono hbw))
      generalize (wr.alloc (.cells #[.string ⟨x.key.toArray⟩, .string ⟨x.val.toArray⟩, .bool x.gone] 55)) = W at *
      have b0 : W.cell? ⟨wr.heap.size, 0, none⟩ = some (.string ⟨x.key.toArray⟩) := h3b.cell 0
      have hWl := h3b.lt
      obtain ⟨v5, w5, hrun, hO5, _, hB5⟩ := append_ow_one LTat x.key HO3.out (by have := HL.out; omega) (by omega)
      have HO5 := Lib.hid hO5
      have HB5 := Lib.hid (HB3.out.trans (hB5 w.heap.size (by omega) fun j hj => (HO3.out.block j hj).1))
      have hrun' : ∀ ty, (Builtin.append_ #[49, 49] ty #[_, .slice (some ⟨W.heap.size, 0, none⟩) 1 1]).run Tryz.prog (W.alloc (.cells #[.string ⟨x.key.toArray⟩] 9)) = .ok v5 w5 := hrun
      clear hrun
      clear h3B h3b HO HB hO5 hB5 HO3 HB3 p0 p1 p2
      go_wp2_with (first | (at_builtin; refine Lib.wpList_append_run _ rfl _ _ _ _ rfl _ _ rfl rfl _ _ (hrun' _) ?_) | go_in)
      go_roundg (r.length - (k + 1))
      case measure => omega
      case rel => exact ⟨k + 1, by go_num, by omega, Nat.le_refl _, by rw [HT.out]; exact HO5, HB5⟩
    · have hltI : ¬ (k : Int) < r.length := by omega
      go_wp2
      go_ret
      have : r.take k = r := List.take_of_length_le (by omega)
      rw [this] at HO
      exact ⟨_, rfl, HO.out, HB.out⟩
end Go.Proofs.YtmpklljiddggpaaGreatDoor

/-
  The walks of the statements' opened and of SameTexts. Conditions: each theorem's own premises.
-/
namespace Go.Proofs.YtmpklljiddggpaaGreatDoor
open Go.Shelf Go.RowKit Go.Lib Go.Sort
attribute [local go_sem] Oper.semAt_some

/-- A new store. -/
def newSt (n : Nat) : St := ⟨newD n, ⟨0, 0, 0⟩, []⟩
theorem newSt_bd (n : Nat) : Bd (newSt n) := ⟨inv_new n, by simp [newSt, newD], by simp [newSt, newD]⟩
/-- What Open leaves on a disk at rest, for a store that is used. -/
theorem RetOpen.jr {w w' : World} {g f m : Nat} {s : DS} {h : Hd} {r : List Chg} {e : Ending} (H : RetOpen g h r w e w') (hD : Dk w g f m s) : ∃ sb v, e = .returned (.tuple #[.pointer (some ⟨sb, 0, none⟩), .nilIface]) ∧ w.heap.size ≤ sb ∧ Jr w' w.heap.size g f m sb v ⟨s, h, r⟩ ∧ Below w.heap.size w w' := by
  obtain ⟨sb, v, rfl, hO, hB⟩ := H
  have h1 := hD.gl
  have h2 := hD.fl
  have h3 := hD.ml
  have h4 := hO.lo
  refine ⟨sb, v, rfl, h4, ⟨hD.below hB, hO.at_, hO.own, by omega, fun k hk => ?_⟩, hB⟩
  obtain ⟨A, c, rfl, hC, _, _, _, hA⟩ := hO.own.chs
  have hkb := (hO.own.block k hk).1
  have hks : k ≠ sb := by
    rintro rfl
    rcases hO.own.form with ⟨e, _⟩ | ⟨k', cap, cs, e, _, hb, _⟩
    · rw [e] at hk
      cases hk
    · rw [e] at hk
      cases hk
      have := hO.at_.symm.trans hb
      cases this
  simp only [List.mem_cons, List.not_mem_nil, not_or, or_false]
  omega
/-- What opened leaves. -/
def RetNs (n : Nat) (w : World) (e : Ending) (w' : World) : Prop :=
  ∃ g f m sb v, e = .returned (.tuple #[.pointer (some ⟨sb, 0, none⟩), .pointer (some ⟨g, 0, none⟩)]) ∧ w.heap.size ≤ g ∧ w.heap.size ≤ f ∧ w.heap.size ≤ m ∧ w.heap.size ≤ sb ∧ Jr w' w.heap.size g f m sb v (newSt n) ∧ Below w.heap.size w w'
set_option maxRecDepth 100000 in
set_option maxHeartbeats 1000000 in
theorem opened_any (n : Nat) (w : World) (aE aS aR aC aF aM : Addr) (h1 : 1 ≤ n) (h2 : n ≤ 16384) (he : Errs w aE aS aR) (hE : Es w aR aC aF aM) :
    Calls Tryz.prog 7 #[.int .i64 (n : Int)] w (RetNs n w) := by
  have hn := new_ok n w h1 h2
  have He := Lib.hid he
  have HE := Lib.hid hE
  clear he hE
  go_enter Tryz.func7, Tryz.ntmps7
  go_wp2_with fail
  refine hn.mono ?_
  rintro e w1 ⟨g, f, m, rfl, hg, hf, hm, hD, hB⟩
  have hop := open_any ⟨0, 0, 0⟩ g f m (newD n) [] w1 aE aS aR aC aF aM hD (inv_new n) (He.out.below hB (Nat.le_refl _)) (HE.out.fr ((Fr.refl [] w).belows hB (Nat.le_refl _)) (by simp)) (by simp [newD])
  have HD := Lib.hid hD
  have HB := Lib.hid hB
  have hw1 := hB.size
  clear hD hB hn
  go_wp2_with fail
  refine hop.mono ?_
  intro e w2 h2
  obtain ⟨sb, v, rfl, hsb, hJ, hB2⟩ := h2.jr HD.out
  have HJ := Lib.hid hJ
  have HB2 := Lib.hid hB2
  clear h2 hJ hB2 hop
  go_wp2
  go_ret2
  exact ⟨g, f, m, sb, v, rfl, hg, hf, hm, by omega, ⟨HJ.out.dk, HJ.out.st, HJ.out.own.mono hw1, HJ.out.sd, HJ.out.ne⟩, HB.out.trans (HB2.out.mono hw1)⟩
end Go.Proofs.YtmpklljiddggpaaGreatDoor

/-
  Plain: a store whose disk has power for good: what Commit and Compact answer and leave. Conditions: none.
-/
namespace Go.Proofs.YtmpklljiddggpaaGreatDoor
open Go.Shelf Go.RowKit Go.Lib Go.Sort

/-- A store at rest on a disk of n sectors that has power for good; at most K calls so far. -/
structure Ok (n K : Nat) (t : St) : Prop where
  inv : Inv' t
  calm : Calm t.s
  len : t.s.kept.length = n
  arm : t.s.armed = 0
  calls : 0 ≤ t.s.calls ∧ t.s.calls ≤ (K : Int)
theorem Ok.bd {n K : Nat} {t : St} (h : Ok n K t) (hK : K < 1000000000) : Bd t := ⟨h.inv, by rw [h.arm]; omega, by have := h.calls; omega⟩
theorem Ok.more {n K K' : Nat} {t : St} (h : Ok n K t) (hK : K ≤ K') : Ok n K' t := ⟨h.inv, h.calm, h.len, h.arm, by have := h.calls; omega⟩
theorem ok_new (n : Nat) : Ok n 0 (newSt n) := ⟨inv_new n, ⟨by simp [newSt, newD], rfl⟩, by simp [newSt, newD], rfl, by simp [newSt, newD]⟩
theorem Ok.did {n K : Nat} {t : St} {r' : List Chg} {x : Res × St} (h : Ok n K t) (D : Did t r' x) : Ok n (K + n + 3) x.2 ∧ x.1 ≠ .crash ∧ (x.1 = .fine → x.2.r = r') ∧ (x.1 ≠ .fine → x.2 = t) := by
  have hc := h.calls
  obtain ⟨c1, c2, c3⟩ := D.calm h.calm
  have hl := D.len
  have hn := h.len
  have hca := D.calls
  have hin : Inv' x.2 := by
    by_cases hf : x.1 = .fine
    · exact (D.fine hf).1
    · rw [D.else_ hf c1]
      exact h.inv
  exact ⟨⟨hin, c2, by omega, by rw [c3]; exact h.arm, by omega⟩, c1, fun hf => (D.fine hf).2, fun hf => D.else_ hf c1⟩
theorem Ok.step {n K : Nat} {t : St} (h : Ok n K t) (hn : 1 ≤ n) (l : List Chg) : Ok n (K + n + 3) (comm t l).2 ∧ (comm t l).1 ≠ .crash ∧ ((comm t l).1 = .fine → (comm t l).2.r = aft (t.r ++ l)) ∧ ((comm t l).1 ≠ .fine → (comm t l).2 = t) :=
  h.did (did_comm h.inv (by rw [h.len]; exact hn) l)
theorem fin_calm {x : Bool × DS} (h : x.1 = true) (a b : Hd) (r r' : List Chg) : (fin x a b r r').1 = .fine := by unfold fin; rw [h]; rfl
/-- How Commit answers where power is. -/
theorem Ok.says {n K : Nat} {t : St} (h : Ok n K t) (l : List Chg) :
    (comm t l).1 = if l.any badKey then .range else if l.any badVal then .many else if 256 < (aft (t.r ++ l)).length then .many else (comm t l).1 := by
  have he := aft_eff h.inv.recs l
  unfold comm
  rw [he]
  split
  · rfl
  · split
    · rfl
    · split
      · rfl
      · rfl
theorem Ok.fine {n K : Nat} {t : St} (h : Ok n K t) {l : List Chg} (h1 : l.any badKey = false) (h2 : l.any badVal = false) (h3 : (aft (t.r ++ l)).length ≤ 256) (h4 : secs (aft (t.r ++ l)) ≤ roomN n) : (comm t l).1 = .fine := by
  have he := aft_eff h.inv.recs l
  have hl := h.len
  unfold comm
  rw [he, h1, h2]
  simp only [Bool.false_eq_true, if_false]
  rw [if_neg (by omega)]
  split
  · rfl
  · split
    · exact fin_calm (calm_put h.calm _ _).1 _ _ _ _
    · unfold rewr
      rw [if_neg (by rw [hl]; omega)]
      exact fin_calm (calm_put h.calm _ _).1 _ _ _ _
/-- It answers that there is no room only where there is none. -/
theorem Ok.refused {n K : Nat} {t : St} (h : Ok n K t) {l : List Chg} (h1 : l.any badKey = false) (h2 : l.any badVal = false) (h3 : (aft (t.r ++ l)).length ≤ 256) : (comm t l).1 = .fine ∨ ((comm t l).1 = .full ∧ roomN n < secs (aft (t.r ++ l))) := by
  by_cases h4 : secs (aft (t.r ++ l)) ≤ roomN n
  · exact .inl (h.fine h1 h2 h3 h4)
  · have he := aft_eff h.inv.recs l
    have hl := h.len
    unfold comm
    rw [he, h1, h2]
    simp only [Bool.false_eq_true, if_false]
    rw [if_neg (by omega)]
    split
    · exact .inl rfl
    · split
      · exact .inl (fin_calm (calm_put h.calm _ _).1 _ _ _ _)
      · unfold rewr
        rw [if_pos (by rw [hl]; omega)]
        exact .inr ⟨rfl, by omega⟩
theorem Ok.again {n K : Nat} {t : St} (h : Ok n K t) (hn : 1 ≤ n) : Ok n (K + n + 3) (rewr t t.r).2 ∧ (rewr t t.r).1 ≠ .crash ∧ (rewr t t.r).2.r = t.r := by
  have D := did_rewr h.inv (by rw [h.len]; exact hn) h.inv.ok h.inv.recs h.inv.few
  obtain ⟨a, b, _, d⟩ := h.did D
  refine ⟨a, b, ?_⟩
  by_cases hf : (rewr t t.r).1 = .fine
  · exact (rewr_r t t.r).1 hf
  · exact (rewr_r t t.r).2 hf
theorem Ok.rewr_fine {n K : Nat} {t : St} (h : Ok n K t) (h4 : secs t.r ≤ roomN n) : (rewr t t.r).1 = .fine := by
  unfold rewr
  rw [if_neg (by rw [h.len]; omega)]
  exact fin_calm (calm_put h.calm _ _).1 _ _ _ _
/-- The statements' after: rising records, one change after the other. -/
theorem after_put {r l : List Chg} (h : Recs r) : l.foldl putR r = aft (r ++ l) := put_all h l
end Go.Proofs.YtmpklljiddggpaaGreatDoor

/-
  A store as a statement holds it; the walks of SameTexts and of the chapter's examples. Conditions: each theorem's own premises.
-/
namespace Go.Proofs.YtmpklljiddggpaaGreatDoor
open Go.Shelf Go.RowKit Go.Lib Go.Sort
attribute [local go_sem] Oper.semAt_some

/-- A store that a statement has made since the world w0: its disk has n sectors and power for good. -/
structure Sto (w0 w : World) (n K g f m sb : Nat) (v : Value) (t : St) : Prop where
  jr : Jr w w0.heap.size g f m sb v t
  ok : Ok n K t
  lo : w0.heap.size ≤ g ∧ w0.heap.size ≤ f ∧ w0.heap.size ≤ m ∧ w0.heap.size ≤ sb
  un : Below w0.heap.size w0 w
theorem Es.lows {w : World} {aR aC aF aM : Addr} (h : Es w aR aC aF aM) {x : Nat} (hx : w.heap.size ≤ x) : LowE x := by
  have h1 := World.block_lt_of_cell? w _ h.r
  have h2 := World.block_lt_of_cell? w _ h.c
  have h3 := World.block_lt_of_cell? w _ h.f
  have h4 := World.block_lt_of_cell? w _ h.m
  simp only at h1 h2 h3 h4
  exact ⟨by omega, by omega, by omega, by omega⟩
theorem RetNs.sto {n : Nat} {w0 w w' : World} {e : Ending} (H : RetNs n w e w') (hw : Below w0.heap.size w0 w) : ∃ g f m sb v, e = .returned (.tuple #[.pointer (some ⟨sb, 0, none⟩), .pointer (some ⟨g, 0, none⟩)]) ∧ Sto w0 w' n 0 g f m sb v (newSt n) := by
  obtain ⟨g, f, m, sb, v, rfl, h1, h2, h3, h4, hJ, hB⟩ := H
  have := hw.size
  exact ⟨g, f, m, sb, v, rfl, ⟨hJ.dk, hJ.st, hJ.own.mono hw.size, hJ.sd, hJ.ne⟩, ok_new n, by omega, hw.trans (hB.mono hw.size)⟩
section
variable {w0 w w' : World} {n K g f m sb : Nat} {v : Value} {t : St} {aE aS aR aC aF aM : Addr}
theorem Sto.below (H : Sto w0 w n K g f m sb v t) (hb : Below w.heap.size w w') : Sto w0 w' n K g f m sb v t := ⟨H.jr.below hb, H.ok, H.lo, H.un.trans (hb.mono H.un.size)⟩
/-- What a call on a store leaves, as a statement sees it. -/
def RetSt (w0 w : World) (n K g f m sb : Nat) (aR aC aF aM : Addr) (x : Res × St) (e : Ending) (w' : World) : Prop :=
  ∃ m' v', (m' = m ∨ w.heap.size ≤ m') ∧ e = .returned (resV aR aC aF aM x.1) ∧ Fr [g, f, m, sb] w w' ∧ Sto w0 w' n (K + n + 3) g f m' sb v' x.2
theorem RetSt.of {x : Res × St} {e : Ending} (h : RetCo w w0.heap.size g f m sb aR aC aF aM x e w') (H : Sto w0 w n K g f m sb v t) (hk : Ok n (K + n + 3) x.2) : RetSt w0 w n K g f m sb aR aC aF aM x e w' := by
  obtain ⟨m', v', h1, h2, h3, h4⟩ := h
  have hs := H.un.size
  have hl := H.lo
  exact ⟨m', v', h1, h2, h3, h4, hk, by omega, ⟨h3.os.trans H.un.os, h3.tape.trans H.un.tape, h3.output.trans H.un.output, Nat.le_trans hs h3.size, fun k hk => (h3.block k (by omega) (by simp only [List.mem_cons, List.not_mem_nil, not_or, or_false]; omega)).trans (H.un.block k hk)⟩⟩
theorem Sto.commit (H : Sto w0 w n K g f m sb v t) (he : Errs w0 aE aS aR) (hE : Es w0 aR aC aF aM) (hn : 1 ≤ n) (hK : K < 1000000000) {A : Option Addr} {c : Nat} {l : List Chg} (hC : Chs w w.heap.size A l) (hz : A = none → c = 0) (hl : l.length ≤ 100000) :
    Calls Tryz.prog 11 #[.pointer (some ⟨sb, 0, none⟩), .slice A l.length c] w (RetSt w0 w n K g f m sb aR aC aF aM (comm t l)) :=
  (commit_any w0.heap.size g f m sb t v A c l w aE aS aR aC aF aM H.jr (H.ok.bd hK) (he.below H.un (Nat.le_refl _)) (hE.fr ((Fr.refl [] w0).belows H.un (Nat.le_refl _)) (by simp)) (hE.lows H.lo.1) (hE.lows H.lo.2.1) H.un.size hC hz hl).mono fun _ _ h => RetSt.of h H (H.ok.step hn l).1
theorem Sto.compact (H : Sto w0 w n K g f m sb v t) (he : Errs w0 aE aS aR) (hE : Es w0 aR aC aF aM) (hn : 1 ≤ n) (hK : K < 1000000000) :
    Calls Tryz.prog 14 #[.pointer (some ⟨sb, 0, none⟩)] w (RetSt w0 w n K g f m sb aR aC aF aM (rewr t t.r)) :=
  (compact_any w0.heap.size g f m sb t v w aE aS aR aC aF aM H.jr (H.ok.bd hK) (he.below H.un (Nat.le_refl _)) (hE.fr ((Fr.refl [] w0).belows H.un (Nat.le_refl _)) (by simp)) (hE.lows H.lo.1) (hE.lows H.lo.2.1)).mono fun _ _ h => RetSt.of h H (H.ok.again hn).1
theorem Sto.get (H : Sto w0 w n K g f m sb v t) (k : List UInt8) : Calls Tryz.prog 20 #[.pointer (some ⟨sb, 0, none⟩), .string ⟨k.toArray⟩] w (RetGet k t.r w) := by
  obtain ⟨A, c, rfl, hC, _⟩ := H.jr.own.chs
  exact get_any sb g t.h A c w.heap.size t.r k w H.jr.st hC (Nat.le_refl _) H.ok.inv.recs.1 (by have := H.ok.inv.few; omega)
theorem Sto.keys (H : Sto w0 w n K g f m sb v t) : Calls Tryz.prog 19 #[.pointer (some ⟨sb, 0, none⟩)] w fun e w' => ∃ v, e = .returned v ∧ Ow LT w' w.heap.size v (keysL t.r) ∧ Below w.heap.size w w' := by
  obtain ⟨A, c, rfl, hC, _⟩ := H.jr.own.chs
  exact keys_any sb g t.h A c w.heap.size t.r w H.jr.st hC (Nat.le_refl _) H.ok.inv.few
/-- Opened again. -/
theorem Sto.reopen (H : Sto w0 w n K g f m sb v t) (he : Errs w0 aE aS aR) (hE : Es w0 aR aC aF aM) (hK : K < 1000000000) :
    Calls Tryz.prog 17 #[.pointer (some ⟨g, 0, none⟩)] w fun e w' => ∃ sb' v', e = .returned (.tuple #[.pointer (some ⟨sb', 0, none⟩), .nilIface]) ∧ w.heap.size ≤ sb' ∧ Below w.heap.size w w' ∧ Sto w0 w' n K g f m sb' v' t := by
  refine (open_any t.h g f m t.s t.r w aE aS aR aC aF aM H.jr.dk H.ok.inv (he.below H.un (Nat.le_refl _)) (hE.fr ((Fr.refl [] w0).belows H.un (Nat.le_refl _)) (by simp)) (by have := H.ok.calls; omega)).mono fun e w' h => ?_
  obtain ⟨sb', v', rfl, h1, hJ, hB⟩ := h.jr H.jr.dk
  have := H.un.size
  have := H.lo
  exact ⟨sb', v', rfl, h1, hB, ⟨hJ.dk, hJ.st, hJ.own.mono H.un.size, hJ.sd, hJ.ne⟩, H.ok, by omega, H.un.trans (hB.mono H.un.size)⟩
end
/-- A slice built of changes. -/
theorem chs_built (w : World) (l : List Chg) : Chs (w.alloc (.cells (cellsL l).toArray 55)) (w.alloc (.cells (cellsL l).toArray 55)).heap.size (some ⟨w.heap.size, 0, none⟩) l :=
  ⟨fun _ => ⟨_, rfl, by simp, fun j u hu => by
    rw [lit_add]
    have hB : Blk (w.alloc (.cells (cellsL l).toArray 55)) w.heap.size _ _ := heap_alloc_new w _
    rw [hB.cell j]
    simpa using hu⟩⟩
/-- A slice built of texts. -/
theorem rw_built {α : Type} (L : Lie α) (w : World) (l : List α) : Rw L (w.alloc (.cells (L.cells l).toArray L.ty)) (w.alloc (.cells (L.cells l).toArray L.ty)).heap.size (some ⟨w.heap.size, 0, none⟩) l :=
  ⟨fun _ => ⟨_, rfl, by simp, fun j u hu => by
    rw [lit_add]
    have hB : Blk (w.alloc (.cells (L.cells l).toArray L.ty)) w.heap.size _ _ := heap_alloc_new w _
    rw [hB.cell j]
    simpa using hu⟩⟩
set_option maxRecDepth 100000 in
set_option maxHeartbeats 1000000 in
theorem sameTexts_yes (A1 A2 : Option Addr) (c1 c2 B : Nat) (l : List (List UInt8)) (w : World) (h1 : Rw LT w B A1 l) (h2 : Rw LT w B A2 l) (hB : B ≤ w.heap.size) (hl : l.length ≤ 1000000) :
    Calls Tryz.prog 21 #[.slice A1 l.length c1, .slice A2 l.length c2] w fun e w' => e = .returned (.bool true) ∧ Below w.heap.size w w' := by
  have H1 := Lib.hid (h1.more hB)
  have H2 := Lib.hid (h2.more hB)
  clear h1 h2 hB
  go_enter Tryz.func21, Tryz.ntmps21
  go_wp2
  go_loopg [5, 6] l.length (fun kx s5 s6 wr => ∃ (k : Nat), s5 = .int .i64 k ∧ k ≤ l.length ∧ l.length - k ≤ kx ∧ Hid (Below w.heap.size w wr))
  case atStart => exact ⟨0, rfl, by omega, by omega, Lib.hid (Below.refl _ _)⟩
  case round =>
    obtain ⟨k, rfl, hkm, hkx, HB⟩ := hrel
    by_cases hlt : k < l.length
    · have hltI : (k : Int) < l.length := by omega
      obtain ⟨ad1, rfl, _, p1⟩ := (H1.out.below HB.out).pick hlt
      obtain ⟨ad2, rfl, _, p2⟩ := (H2.out.below HB.out).pick hlt
      have q1 : wr.cell? (ad1.add (k * 1)) = some (.string ⟨l[k].toArray⟩) := p1 0 _ rfl
      have q2 : wr.cell? (ad2.add (k * 1)) = some (.string ⟨l[k].toArray⟩) := p2 0 _ rfl
      rw [Nat.mul_one] at q1 q2
      generalize l[k] = x at *
      clear p1 p2
      go_wp2_with fail
      go_quiet (fail)
      have HB4 : Hid (Below w.heap.size w (wr.drewN nq)) := Lib.hid (HB.out.trans ((bl_drew wr nq).mono HB.out.size))
      clear HB q1 q2
      generalize wr.drewN nq = W4 at *
      go_wp2
      go_roundg (l.length - (k + 1))
      case measure => omega
      case rel => exact ⟨k + 1, by go_num, by omega, Nat.le_refl _, HB4⟩
    · have hltI : ¬ (k : Int) < l.length := by omega
      go_wp2
      go_ret
      exact ⟨rfl, HB.out⟩
end Go.Proofs.YtmpklljiddggpaaGreatDoor

/-
  The walk of the chapter's examples. Conditions: each theorem's own premises.
-/
namespace Go.Proofs.YtmpklljiddggpaaGreatDoor
open Go.Shelf Go.RowKit Go.Lib Go.Sort
attribute [local go_sem] Oper.semAt_some

def cA1 : Chg := ⟨[97], [49], false⟩
def cA2 : Chg := ⟨[97], [50], false⟩
def cB3 : Chg := ⟨[98], [51], false⟩
theorem chap_data : (comm (newSt 64) [cA1]).1 = .fine ∧ (comm (newSt 64) [cA1]).2.r = [cA1] ∧ (comm (comm (newSt 64) [cA1]).2 [cA2, cB3]).1 = .fine ∧ (comm (comm (newSt 64) [cA1]).2 [cA2, cB3]).2.r = [cA2, cB3] := by
  have k0 := ok_new 64
  have f1 : (comm (newSt 64) [cA1]).1 = .fine := k0.fine (by decide) (by decide) (by decide) (by decide)
  obtain ⟨k1, _, r1, _⟩ := k0.step (by omega) [cA1]
  have r1 := r1 f1
  have e1 : aft ((newSt 64).r ++ [cA1]) = [cA1] := by rfl
  rw [e1] at r1
  have e2 : aft ((comm (newSt 64) [cA1]).2.r ++ [cA2, cB3]) = [cA2, cB3] := by rw [r1]; rfl
  have f2 : (comm (comm (newSt 64) [cA1]).2 [cA2, cB3]).1 = .fine := k1.fine (by decide) (by decide) (by rw [e2]; decide) (by rw [e2]; decide)
  obtain ⟨_, _, r2, _⟩ := k1.step (by omega) [cA2, cB3]
  exact ⟨f1, r1, f2, (r2 f2).trans e2⟩

set_option maxRecDepth 100000 in
set_option maxHeartbeats 2000000 in
theorem chap_any (w : World) (aE aS aR aC aF aM : Addr) (he : Errs w aE aS aR) (hE : Es w aR aC aF aM) :
    Calls Tryz.prog 5 #[] w fun e w' => e = .returned (.bool true) ∧ Below w.heap.size w w' := by
  obtain ⟨d1, d2, d3, d4⟩ := chap_data
  have hop := opened_any 64 w aE aS aR aC aF aM (by omega) (by omega) he hE
  have He := Lib.hid he
  have HE := Lib.hid hE
  have HD := Lib.hid (And.intro d1 (And.intro d2 (And.intro d3 d4)))
  clear he hE d1 d2 d3 d4
  go_enter Tryz.func5, Tryz.ntmps5
  go_wp2_with fail
  refine hop.mono ?_
  intro e w1 h1
  obtain ⟨g, f, m, sb, v, rfl, hS⟩ := h1.sto (Below.refl _ w)
  clear h1
  generalize newSt 64 = t0 at hS HD
  have hb2 : Below w1.heap.size w1 (w1.alloc (.cells #[.string ⟨#[97]⟩, .string ⟨#[49]⟩, .bool false] 55)) := (Below.refl _ w1).alloc (Nat.le_refl _) _
  have hq1 : Chs (w1.alloc (.cells #[.string ⟨#[97]⟩, .string ⟨#[49]⟩, .bool false] 55)) (w1.alloc (.cells #[.string ⟨#[97]⟩, .string ⟨#[49]⟩, .bool false] 55)).heap.size (some ⟨w1.heap.size, 0, none⟩) [cA1] := chs_built w1 [cA1]
  have hc1 := Sto.commit (hS.below hb2) He.out HE.out (by omega) (by omega) hq1 (fun e => by cases e) (by decide) (c := 1)
  rw [show [cA1].length = 1 from rfl] at hc1
  clear hq1
  clear hop hS hb2
  go_wp2_with fail
  refine hc1.mono ?_
  intro e w3 h3
  obtain ⟨m3, v3, _, h3, _, hS3⟩ := h3
  obtain rfl : e = .returned .nilIface := by rw [HD.out.1] at h3; exact h3
  clear h3
  have HD := HD.out.2.2
  generalize (comm t0 [cA1]).2 = t3 at hS3 HD
  have HD := Lib.hid HD
  have hb4 : Below w3.heap.size w3 (w3.alloc (.cells #[.string ⟨#[97]⟩, .string ⟨#[50]⟩, .bool false, .string ⟨#[98]⟩, .string ⟨#[51]⟩, .bool false] 55)) := (Below.refl _ w3).alloc (Nat.le_refl _) _
  have hq2 : Chs (w3.alloc (.cells #[.string ⟨#[97]⟩, .string ⟨#[50]⟩, .bool false, .string ⟨#[98]⟩, .string ⟨#[51]⟩, .bool false] 55)) (w3.alloc (.cells #[.string ⟨#[97]⟩, .string ⟨#[50]⟩, .bool false, .string ⟨#[98]⟩, .string ⟨#[51]⟩, .bool false] 55)).heap.size (some ⟨w3.heap.size, 0, none⟩) [cA2, cB3] := chs_built w3 [cA2, cB3]
  have hc2 := Sto.commit (hS3.below hb4) He.out HE.out (by omega) (by omega) hq2 (fun e => by cases e) (by decide) (c := 2)
  rw [show [cA2, cB3].length = 2 from rfl] at hc2
  clear hq2
  clear hc1 hS3 hb4
  go_wp2_with fail
  refine hc2.mono ?_
  intro e w5 h5
  obtain ⟨m5, v5, _, h5, _, hS5⟩ := h5
  obtain rfl : e = .returned .nilIface := by rw [HD.out.1] at h5; exact h5
  clear h5
  have hr5 := HD.out.2
  generalize (comm t3 [cA2, cB3]).2 = t5 at hS5 hr5
  have hg := hS5.get [97]
  have HS5 := Lib.hid hS5
  have HR5 := Lib.hid hr5
  clear hc2 hS5 hr5
  go_wp2_with fail
  refine hg.mono ?_
  rintro e w6 ⟨h6, hB6⟩
  obtain rfl : e = .returned (.tuple #[.string ⟨#[50]⟩, .bool true]) := by rw [HR5.out] at h6; exact h6
  have hS6 := HS5.out.below hB6
  have hk := hS6.keys
  have HS6 := Lib.hid hS6
  clear hg hB6 h6 hS6
  go_wp2_with fail
  refine hk.mono ?_
  rintro e w7 ⟨v7, rfl, hO7, hB7⟩
  rw [HR5.out] at hO7
  have hO7 : Ow LT w7 w6.heap.size v7 [[97], [98]] := hO7
  obtain ⟨A7, c7, rfl, hR7, _⟩ := hO7.rw
  have hb8 : Below w7.heap.size w7 (w7.alloc (.cells #[.string ⟨#[97]⟩, .string ⟨#[98]⟩] 9)) := (Below.refl _ w7).alloc (Nat.le_refl _) _
  have hB8 := HS6.out.un.trans (hB7.mono HS6.out.un.size)
  have hB8' := hB8.trans (hb8.mono hB8.size)
  have hq8 : Rw LT (w7.alloc (.cells #[.string ⟨#[97]⟩, .string ⟨#[98]⟩] 9)) (w7.alloc (.cells #[.string ⟨#[97]⟩, .string ⟨#[98]⟩] 9)).heap.size (some ⟨w7.heap.size, 0, none⟩) [[97], [98]] := rw_built LT w7 [[97], [98]]
  have hst := sameTexts_yes A7 (some ⟨w7.heap.size, 0, none⟩) c7 2 _ [[97], [98]] _ ((hR7.below hb8).more hb8.size) hq8 (Nat.le_refl _) (by decide)
  clear hq8
  have HB8 := Lib.hid hB8'
  clear hk hO7 hB7 hR7 hb8 hB8 hB8'
  go_wp2_with fail
  refine hst.mono ?_
  rintro e w9 ⟨rfl, hB9⟩
  have HB9 := Lib.hid (HB8.out.trans (hB9.mono HB8.out.size))
  clear hB9 hst
  go_wp2
  go_ret
  exact ⟨rfl, HB9.out⟩
end Go.Proofs.YtmpklljiddggpaaGreatDoor

/-
  Plain: changes that change nothing. Conditions: none.
-/
namespace Go.Proofs.YtmpklljiddggpaaGreatDoor
open Go.Shelf Go.RowKit Go.Lib Go.Sort

def sumC : List Chg → Nat
  | [] => 0
  | c :: r => c.key.length + c.val.length + 30 + sumC r
theorem encL_sum {l : List Chg} (h : ∀ c ∈ l, OkC c) : (encL l).length ≤ sumC l := by
  induction l with
  | nil => simp [encL]
  | cons c r ih =>
    have h1 := h c (by simp)
    have := ih fun x hx => h x (by simp [hx])
    have := (front_length h1).1
    have : (encL (c :: r)).length = (frontC c).length + c.val.length + (encL r).length := by simp [encL, encC1]; omega
    unfold sumC
    omega
theorem comm_idle {n K : Nat} {t : St} (h : Ok n K t) {l : List Chg} (h1 : l.any badKey = false) (h2 : l.any badVal = false) (he : eff t.r l = []) : comm t l = (.fine, t) := by
  have hf := h.inv.few
  have ha : aft (t.r ++ eff t.r l) = t.r := by rw [he, List.append_nil]; exact aft_self h.inv.recs
  unfold comm
  rw [h1, h2, ha, if_neg (by simp), if_neg (by simp), if_neg (by omega), if_pos he]
theorem comm_key {t : St} {l : List Chg} (h1 : l.any badKey = true) : comm t l = (.range, t) := by unfold comm; rw [if_pos h1]
theorem comm_val {t : St} {l : List Chg} (h1 : l.any badKey = false) (h2 : l.any badVal = true) : comm t l = (.many, t) := by unfold comm; rw [if_neg (by simp [h1]), if_pos h2]
theorem eff_one {r : List Chg} {c : Chg} (h : idle r (strip c) = true) : eff r [c] = [] := by
  unfold eff
  rw [show setl [c] = [strip c] from rfl]
  simp [h]
/-- The store with one record. -/
theorem one_rec {k v : List UInt8} (hk : 1 ≤ k.length ∧ k.length ≤ 40) (hv : v.length ≤ 300) : (comm (newSt 300) [⟨k, v, false⟩]).1 = .fine ∧ (comm (newSt 300) [⟨k, v, false⟩]).2.r = [⟨k, v, false⟩] ∧ Ok 300 303 (comm (newSt 300) [⟨k, v, false⟩]).2 := by
  have k0 := ok_new 300
  have e1 : aft ((newSt 300).r ++ [⟨k, v, false⟩]) = [⟨k, v, false⟩] := by rfl
  have b1 : ([⟨k, v, false⟩] : List Chg).any badKey = false := by
    simp only [List.any_cons, List.any_nil, Bool.or_false, badKey, Bool.or_eq_false_iff, decide_eq_false_iff_not]
    omega
  have b2 : ([⟨k, v, false⟩] : List Chg).any badVal = false := by
    simp only [List.any_cons, List.any_nil, Bool.or_false, badVal, decide_eq_false_iff_not]
    omega
  have hok : ∀ c ∈ ([⟨k, v, false⟩] : List Chg), OkC c := fun c hc => by
    have := chk_ok b1 b2 c hc
    obtain rfl := List.mem_singleton.1 hc
    exact this
  have hs : secs [⟨k, v, false⟩] ≤ roomN 300 := by
    have := encL_sum hok
    simp only [sumC] at this
    unfold secs roomN
    omega
  have f1 := k0.fine b1 b2 (by rw [e1]; simp) (by rw [e1]; exact hs)
  obtain ⟨k1, _, r1, _⟩ := k0.step (by omega) [⟨k, v, false⟩]
  exact ⟨f1, (r1 f1).trans e1, k1⟩
end Go.Proofs.YtmpklljiddggpaaGreatDoor
