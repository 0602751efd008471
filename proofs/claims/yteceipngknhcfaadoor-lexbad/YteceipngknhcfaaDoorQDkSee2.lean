/-
  The walks of the statements' helpers over errors: sentinel, Fault, Same. Conditions: each theorem's own premises.
-/
import Derived.Test.YteceipngknhcfaaDoorQDkSee
namespace Go.Proofs.YteceipngknhcfaaDoor
open Go.RowKit

/-- Where the loop of 'sentinel' stands: none of the first k is it. -/
def SentRel (m : Nat) (i : Value) : Prop := ∃ k : Nat, k ≤ m ∧ i = .int .i64 (k : Int)

theorem sentCell (w : World) (ads : List Addr) (k : Nat) (hk : k < ads.length) : (w.alloc (.cells (sentVals ads) 25)).cell? ⟨w.heap.size, k, none⟩ = some (.iface 125 (.pointer (some ads[k]))) := by
  have := cell_of_row (w.alloc (.cells (sentVals ads) 25)) w.heap.size k (sentVals ads) 25 (0, 0) (heap_alloc_new w _)
  rw [this]
  simp [sentVals, hk]

/-- What 'sentinel' leaves. -/
def RetNo (w : World) (n : Int) (e : Ending) (w' : World) : Prop := e = .returned (.int .i64 n) ∧ Below w.heap.size w w'
set_option maxHeartbeats 1000000 in
set_option maxRecDepth 100000 in
theorem sentinel_any (w : World) (ads : List Addr) (m : Nat) (a : Addr) (h : Sents w ads) (ha : ads[m]? = some a) :
    Calls Tryd.prog 46 #[.iface 125 (.pointer (some a))] w (RetNo w (101 + (m : Int))) := by
  have hm : m < ads.length := (List.getElem?_eq_some_iff.1 ha).1
  have hml : m < 21 := by rw [← h.len]; exact hm
  have H := Lib.hid h
  have HA := Lib.hid ha
  clear h ha
  go_enter Tryd.func46, Tryd.ntmps46
  go_wp2_with fail
  refine (sentinels_any w ads H.out).mono ?_
  rintro e w1 ⟨rfl, rfl⟩
  go_wp2_with fail
  go_loop [4] (fun i => SentRel m i) (fun i => m - (intOf i).toNat)
  case atStart => exact ⟨0, Nat.zero_le _, rfl⟩
  case round =>
    obtain ⟨k, hk, rfl⟩ := hrel
    have hkl : k < ads.length := by omega
    have hc := sentCell w ads k hkl
    obtain ⟨b, hb⟩ : ∃ b, b = ads[k] := ⟨_, rfl⟩
    rw [← hb] at hc
    have HBk : Hid (ads[k]? = some b) := Lib.hid (by rw [hb]; exact List.getElem?_eq_getElem hkl)
    clear hb
    have hk21 : k < 21 := by omega
    have hki : (k : Int) < 21 := by omega
    have hB : Below w.heap.size w (w.alloc (.cells (sentVals ads) 25)) := (Below.refl _ _).alloc (Nat.le_refl _) _
    have HS := Lib.hid (H.out.later hB)
    by_cases hkm : k = m
    · have hab : b = a := by
        have := HBk.out; rw [hkm, HA.out] at this; exact (Option.some.inj this).symm
      subst hab
      have HK := Lib.hid hkm
      clear hkm
      go_wp2_with fail
      refine (alike_same b _).mono ?_
      rintro e w2 ⟨rfl, rfl⟩
      go_wp2
      go_ret
      exact ⟨ret_int (by rw [HK.out]), hB⟩
    · have hlt : k < m := by omega
      go_wp2_with fail
      refine (alike_other a b _ ?ha ?hb ?hne).mono ?_
      case ha => exact (HS.out.at_ m _ a (List.getElem?_eq_getElem (by simpa using hml)) HA.out).block
      case hb => exact (HS.out.at_ k _ b (List.getElem?_eq_getElem (by simpa using hk21)) HBk.out).block
      case hne => exact H.out.apart m k a b HA.out HBk.out (by omega)
      rintro e w2 ⟨rfl, rfl⟩
      go_wp2
      go_round
      case rel => exact ⟨k + 1, by omega, by go_num⟩
      case measure => simp [intOf]; omega

theorem assert_at (b : Addr) (W : World) : (Instr.typeAssert (.iface 77 (.pointer (some b))) 25 77 true).run Tryd.prog W = .ok (.tuple #[.pointer (some b), .bool true]) W := by kernel_rfl
theorem assert_err (b : Addr) (W : World) : (Instr.typeAssert (.iface 125 (.pointer (some b))) 25 77 true).run Tryd.prog W = .ok (.tuple #[.pointer none, .bool false]) W := by kernel_rfl

theorem blk5 {w : World} {g : Nat} {t : TypeId} {v0 v1 v2 v3 v4 : Value} (h : Blk w g t #[v0, v1, v2, v3, v4]) :
    (w.cell? ⟨g, 0, none⟩ = some v0 ∧ w.cell? ⟨g, 1, none⟩ = some v1 ∧ w.cell? ⟨g, 2, none⟩ = some v2 ∧ w.cell? ⟨g, 3, none⟩ = some v3 ∧ w.cell? ⟨g, 4, none⟩ = some v4) ∧
    (w.frozen? ⟨g, 0, none⟩ = false ∧ w.frozen? ⟨g, 1, none⟩ = false ∧ w.frozen? ⟨g, 2, none⟩ = false ∧ w.frozen? ⟨g, 3, none⟩ = false ∧ w.frozen? ⟨g, 4, none⟩ = false) :=
  ⟨⟨h.cell 0, h.cell 1, h.cell 2, h.cell 3, h.cell 4⟩, h.free 0, h.free 1, h.free 2, h.free 3, h.free 4⟩
theorem Sents.drew {w : World} {ads : List Addr} (h : Sents w ads) : Sents w.drew ads := ⟨h.len, fun i g a hg ha => ⟨(h.at_ i g a hg ha).cell, (h.at_ i g a hg ha).block⟩, h.apart⟩
theorem Sents.drewN {w : World} {ads : List Addr} (h : Sents w ads) (n : Nat) : Sents (w.drewN n) ads := ⟨h.len, fun i g a hg ha => ⟨(h.at_ i g a hg ha).cell, (h.at_ i g a hg ha).block⟩, h.apart⟩

set_option maxHeartbeats 1000000 in
set_option maxRecDepth 100000 in
theorem fault_placed (w : World) (ads : List Addr) (m b : Nat) (a : Addr) (pos : Int) (h : Sents w ads) (ha : ads[m]? = some a) (hb : Blk w b 82 #[.int .i64 pos, .iface 125 (.pointer (some a))]) :
    Calls Tryd.prog 28 #[.iface 77 (.pointer (some ⟨b, 0, none⟩))] w (RetB w (fault (101 + (m : Int)) true false pos 0)) := by
  have hc0 : w.cell? ⟨b, 0, none⟩ = some (.int .i64 pos) := hb.cell 0
  have hc1 : w.cell? ⟨b, 1, none⟩ = some (.iface 125 (.pointer (some a))) := hb.cell 1
  have hlt := hb.lt
  have H := Lib.hid h
  have HA := Lib.hid ha
  clear h ha hb
  have t1 := fun W => assert_at ⟨b, 0, none⟩ W
  have t2 := fun W => assert_err a W
  obtain ⟨W0, hW0⟩ : ∃ W0, W0 = w.alloc (.cells #[.int .i64 0, .bool false, .bool false, .int .i64 0, .int .i64 0] 30) := ⟨_, rfl⟩
  have hB0 : Below w.heap.size w W0 := by rw [hW0]; exact (Below.refl _ _).alloc (Nat.le_refl _) _
  have hr0 : Blk W0 w.heap.size 30 #[.int .i64 0, .bool false, .bool false, .int .i64 0, .int .i64 0] := by rw [hW0]; exact heap_alloc_new w _
  have hd0 : W0.cell? ⟨b, 0, none⟩ = some (.int .i64 pos) := (hB0.cell (p := ⟨b, 0, none⟩) hlt).trans hc0
  have hd1 : W0.cell? ⟨b, 1, none⟩ = some (.iface 125 (.pointer (some a))) := (hB0.cell (p := ⟨b, 1, none⟩) hlt).trans hc1
  have HS := Lib.hid (H.out.later hB0).drew
  have hlt0 : b < W0.heap.size := Nat.lt_of_lt_of_le hlt hB0.size
  have HR0 := Lib.hid hr0
  have hsz0 : w.heap.size < W0.heap.size := hr0.lt
  clear hr0
  go_enter Tryd.func28, Tryd.ntmps28
  go_wp2_with fail
  rw [← hW0]
  clear hW0 hc0 hc1
  have hne1 : ¬ w.heap.size = b := by omega
  have hne2 : ¬ b = w.heap.size := by omega
  go_region_held3 (fun W => W.cell? ⟨b, 0, none⟩ = some (.int .i64 pos) ∧ W.cell? ⟨b, 1, none⟩ = some (.iface 125 (.pointer (some a)))) (go_keep)
    (first
      | (go_at_call 46; refine (sentinel_any _ ads m a HS.out HA.out).mono ?_; rintro e w1 ⟨rfl, hB1⟩; have k0 := (hB1.cell (p := ⟨b, 0, none⟩) hlt0).trans hd0; have k1 := (hB1.cell (p := ⟨b, 1, none⟩) hlt0).trans hd1; have z1 : b < w1.heap.size := Nat.lt_of_lt_of_le hlt0 hB1.size; have z2 : w.heap.size < w1.heap.size := Nat.lt_of_lt_of_le hsz0 hB1.size; have R1 := Lib.hid (Blk.below (w := W0.drew) HR0.out hB1 hsz0))
      | (go_at_call 26; refine (placed_any _ pos _ (by omega)).mono ?_; rintro e w2 ⟨rfl, hB2⟩; have k2 := (hB2.cell (p := ⟨b, 0, none⟩) z1).trans k0; have k3 := (hB2.cell (p := ⟨b, 1, none⟩) z1).trans k1; have R2 := Lib.hid (R1.out.below hB2 z2); obtain ⟨⟨c0, c1, c2, c3, c4⟩, f0, f1, f2, f3, f4⟩ := blk5 R2.out; have z3 : w.heap.size < w2.heap.size := Nat.lt_of_lt_of_le z2 hB2.size))
  have hF := ((((R2.out.set 0 (.int .i64 (101 + (m : Int)))).set 1 (.bool true)).set 2 (.bool false)).set 3 (.int .i64 pos)).set 4 (.int .i64 0)
  have hBF : Below w.heap.size w (((((w2.setCell ⟨w.heap.size, 0, none⟩ (.int .i64 (101 + (m : Int)))).setCell ⟨w.heap.size, 1, none⟩ (.bool true)).setCell ⟨w.heap.size, 2, none⟩ (.bool false)).setCell ⟨w.heap.size, 3, none⟩ (.int .i64 pos)).setCell ⟨w.heap.size, 4, none⟩ (.int .i64 0)) :=
    (((((hB0.drew.trans ((hB1.mono hB0.size).trans (hB2.mono (by omega)))).setCell (Nat.le_refl _) _).setCell (Nat.le_refl _) _).setCell (Nat.le_refl _) _).setCell (Nat.le_refl _) _).setCell (Nat.le_refl _) _
  generalize ((((w2.setCell ⟨w.heap.size, 0, none⟩ (.int .i64 (101 + (m : Int)))).setCell ⟨w.heap.size, 1, none⟩ (.bool true)).setCell ⟨w.heap.size, 2, none⟩ (.bool false)).setCell ⟨w.heap.size, 3, none⟩ (.int .i64 pos)).setCell ⟨w.heap.size, 4, none⟩ (.int .i64 0) = wF at hF hBF ⊢
  obtain ⟨⟨d0, d1, d2, d3, d4⟩, _⟩ := blk5 (v0 := .int .i64 (101 + (m : Int))) (v1 := .bool true) (v2 := .bool false) (v3 := .int .i64 pos) (v4 := .int .i64 0) hF
  clear c0 c1 c2 c3 c4 f0 f1 f2 f3 f4 k0 k1 k2 k3 hd0 hd1
  go_wp2
  exact bodyPost_ret (v := fault (101 + (m : Int)) true false pos 0) (by simp [results, Tryd.results28, go_sem, d0, d1, d2, d3, d4]) rfl ⟨rfl, hBF⟩

set_option maxHeartbeats 1000000 in
set_option maxRecDepth 100000 in
theorem fault_nil (w : World) : Calls Tryd.prog 28 #[.nilIface] w (RetB w (fault 0 false false 0 0)) := by
  go_enter Tryd.func28, Tryd.ntmps28
  go_wp2_with fail
  refine (none_any _).mono ?_
  rintro e w1 ⟨rfl, hB1⟩
  have hr0 : Blk (w.alloc (.cells #[.int .i64 0, .bool false, .bool false, .int .i64 0, .int .i64 0] 30)) w.heap.size 30 #[.int .i64 0, .bool false, .bool false, .int .i64 0, .int .i64 0] := heap_alloc_new w _
  have R1 := hr0.below hB1 hr0.lt
  obtain ⟨⟨c0, c1, c2, c3, c4⟩, f0, f1, f2, f3, f4⟩ := blk5 R1
  have z1 := R1.lt
  have hF := ((((R1.set 0 (.int .i64 0)).set 1 (.bool false)).set 2 (.bool false)).set 3 (.int .i64 0)).set 4 (.int .i64 0)
  have hBF : Below w.heap.size w (((((w1.setCell ⟨w.heap.size, 0, none⟩ (.int .i64 0)).setCell ⟨w.heap.size, 1, none⟩ (.bool false)).setCell ⟨w.heap.size, 2, none⟩ (.bool false)).setCell ⟨w.heap.size, 3, none⟩ (.int .i64 0)).setCell ⟨w.heap.size, 4, none⟩ (.int .i64 0)) :=
    ((((((((Below.refl _ _).alloc (Nat.le_refl _) _).trans (hB1.mono (by simp))).setCell (Nat.le_refl _) _).setCell (Nat.le_refl _) _).setCell (Nat.le_refl _) _).setCell (Nat.le_refl _) _).setCell (Nat.le_refl _) _)
  have HF := Lib.hid hF
  have HBF := Lib.hid hBF
  clear hr0 R1 hF hBF
  go_wp2
  obtain ⟨⟨d0, d1, d2, d3, d4⟩, _⟩ := blk5 (v0 := .int .i64 0) (v1 := .bool false) (v2 := .bool false) (v3 := .int .i64 0) (v4 := .int .i64 0) HF.out
  exact bodyPost_ret (v := fault 0 false false 0 0) (by simp [results, Tryd.results28, go_sem, d0, d1, d2, d3, d4]) rfl ⟨rfl, HBF.out⟩

/-- A fault in a new block, as cells. -/
def Box5 (W : World) (g : Nat) (c p : Int) (a : Bool) : Prop :=
  W.cell? ⟨g, 0, none⟩ = some (.int .i64 c) ∧ W.cell? ⟨g, 1, none⟩ = some (.bool a) ∧ W.cell? ⟨g, 2, none⟩ = some (.bool false) ∧ W.cell? ⟨g, 3, none⟩ = some (.int .i64 p) ∧ W.cell? ⟨g, 4, none⟩ = some (.int .i64 0)
theorem Box5.below {W W' : World} {g : Nat} {c p : Int} {a : Bool} {B : Nat} (h : Box5 W g c p a) (hb : Below B W W') (hg : g < B) : Box5 W' g c p a :=
  ⟨(hb.cell (p := ⟨g, 0, none⟩) hg).trans h.1, (hb.cell (p := ⟨g, 1, none⟩) hg).trans h.2.1, (hb.cell (p := ⟨g, 2, none⟩) hg).trans h.2.2.1, (hb.cell (p := ⟨g, 3, none⟩) hg).trans h.2.2.2.1, (hb.cell (p := ⟨g, 4, none⟩) hg).trans h.2.2.2.2⟩
set_option maxHeartbeats 1000000 in
set_option maxRecDepth 100000 in
theorem same_fault (w : World) (v : Value) (c p : Int) (a : Bool) (hF : ∀ W, Below w.heap.size w W → Calls Tryd.prog 28 #[v] W (RetB W (fault c a false p 0))) :
    Calls Tryd.prog 13 #[v, fault c a false p 0] w (RetB w (.bool true)) := by
  obtain ⟨W0, hW0⟩ : ∃ W0, W0 = w.alloc (.cells #[.int .i64 c, .bool a, .bool false, .int .i64 p, .int .i64 0] 30) := ⟨_, rfl⟩
  have hB0 : Below w.heap.size w W0 := by rw [hW0]; exact (Below.refl _ _).alloc (Nat.le_refl _) _
  have hr0 : Blk W0 w.heap.size 30 #[.int .i64 c, .bool a, .bool false, .int .i64 p, .int .i64 0] := by rw [hW0]; exact heap_alloc_new w _
  have hsz := hr0.lt
  obtain ⟨⟨c0, c1, c2, c3, c4⟩, _⟩ := blk5 hr0
  have HX := Lib.hid (show Box5 W0.drew w.heap.size c p a from ⟨c0, c1, c2, c3, c4⟩)
  have HF := Lib.hid (hF W0.drew hB0.drew)
  clear hr0 hF
  go_enter Tryd.func13, Tryd.ntmps13
  go_wp2_with fail
  rw [← hW0]
  clear hW0
  go_region_held3 (fun W => W.cell? ⟨w.heap.size, 0, none⟩ = some (.int .i64 c) ∧ W.cell? ⟨w.heap.size, 1, none⟩ = some (.bool a) ∧ W.cell? ⟨w.heap.size, 2, none⟩ = some (.bool false) ∧ W.cell? ⟨w.heap.size, 3, none⟩ = some (.int .i64 p) ∧ W.cell? ⟨w.heap.size, 4, none⟩ = some (.int .i64 0)) (go_keep)
    (first
      | (go_at_call 28; refine HF.out.mono ?_; rintro e w1 ⟨rfl, hB1⟩; have hx1 := Lib.hid (HX.out.below hB1 hsz); have z1 : w.heap.size < w1.heap.size := Nat.lt_of_lt_of_le hsz hB1.size; obtain ⟨k0, k1, k2, k3, k4⟩ := hx1.out)
      | (go_at_call 29; refine (sameFault_eq c p a _).mono ?_; rintro e w2 ⟨rfl, hB2⟩; obtain ⟨l0, l1, l2, l3, l4⟩ := hx1.out.below hB2 z1))
  go_wp2
  go_ret
  exact ⟨rfl, hB0.drew.trans ((hB1.mono hB0.size).trans (hB2.mono (by omega)))⟩
end Go.Proofs.YteceipngknhcfaaDoor
