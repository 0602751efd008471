/-
  The walks of the statements' helpers over errors: None, Bare, Placed, SameFault, Alike, sentinels, sentinel, Fault, Same. Conditions: each theorem's own premises.
-/
import Derived.Test.YtacmibkcnmaagaaDoorQBlk
import Derived.Test.YtacmibkcnmaagaaDoorQLaid
import Derived.LaidEql
import Derived.Deep.RegionHeld3
namespace Go.Proofs.YtacmibkcnmaagaaDoor
open Go.RowKit

/-- A fault as a value. -/
abbrev fault (code : Int) (placed deep : Bool) (pos at_ : Int) : Value := .agg #[.int .i64 code, .bool placed, .bool deep, .int .i64 pos, .int .i64 at_]
def RetB (w : World) (v : Value) (e : Ending) (w' : World) : Prop := e = .returned v ∧ Below w.heap.size w w'

set_option maxHeartbeats 400000 in
theorem none_any (w : World) : Calls Tryd.prog 46 #[] w (RetB w (fault 0 false false 0 0)) := by
  go_enter Tryd.func46, Tryd.ntmps46
  go_wp2
  exact bodyPost_ret (v := fault 0 false false 0 0) (by simp [results, Tryd.results46, go_sem]) rfl ⟨rfl, (Below.refl _ _).alloc (Nat.le_refl _) _⟩
set_option maxHeartbeats 400000 in
theorem bare_any (code : Int) (w : World) : Calls Tryd.prog 39 #[.int .i64 code] w (RetB w (fault code false false 0 0)) := by
  go_enter Tryd.func39, Tryd.ntmps39
  go_wp2
  exact bodyPost_ret (v := fault code false false 0 0) (by simp [results, Tryd.results39, go_sem]) rfl ⟨rfl, (Below.refl _ _).alloc (Nat.le_refl _) _⟩
set_option maxHeartbeats 400000 in
theorem placed_any (code pos : Int) (w : World) (h : 101 ≤ code) : Calls Tryd.prog 13 #[.int .i64 code, .int .i64 pos] w (RetB w (fault code true false pos 0)) := by
  have hb : (code == 0) = false := beq_eq_false_iff_ne.2 (by omega)
  go_enter Tryd.func13, Tryd.ntmps13
  go_wp2
  exact bodyPost_ret (v := fault code true false pos 0) (by simp [results, Tryd.results13, go_sem]) rfl ⟨rfl, (Below.refl _ _).alloc (Nat.le_refl _) _⟩
set_option maxHeartbeats 400000 in
set_option maxRecDepth 100000 in
theorem sameFault_eq (c p : Int) (a : Bool) (w : World) : Calls Tryd.prog 44 #[fault c a false p 0, fault c a false p 0] w (RetB w (.bool true)) := by
  cases a <;>
  · go_enter Tryd.func44, Tryd.ntmps44
    go_wp2
    go_ret
    exact ⟨rfl, ((Below.refl _ _).alloc (Nat.le_refl _) _).alloc (by simp) _⟩

/-- The program's sentinel errors, in the order in which see.go lists them: where they lie, all apart. -/
structure Sents (w : World) (ads : List Addr) : Prop where
  len : ads.length = 21
  at_ : ∀ (i g : Nat) (a : Addr), [5, 3, 1, 6, 7, 8, 9, 2, 0, 10, 11, 12, 13, 14, 15, 16, 17, 18, 19, 20, 21][i]? = some g → ads[i]? = some a → Sentinel w g a
  apart : ∀ (i j : Nat) (a b : Addr), ads[i]? = some a → ads[j]? = some b → i ≠ j → a ≠ b
theorem Sentinel.later {w w' : World} {g : Nat} {a : Addr} (h : Sentinel w g a) (hb : Below w.heap.size w w') : Sentinel w' g a := by
  obtain ⟨c, t, hc⟩ := h.block
  exact ⟨(hb.cell (World.block_lt_of_cell? w _ h.cell)).trans h.cell, c, t, (hb.block _ (Array.getElem?_eq_some_iff.1 hc).1).trans hc⟩
theorem Sents.later {w w' : World} {ads : List Addr} (h : Sents w ads) (hb : Below w.heap.size w w') : Sents w' ads := ⟨h.len, fun i g a hg ha => (h.at_ i g a hg ha).later hb, h.apart⟩

theorem eql_same (w : World) (a : Addr) : (binOp .eql 39 (.iface 188 (.pointer (some a))) (.iface 188 (.pointer (some a)))).run Tryd.prog w = .ok (.bool true) w := by
  obtain ⟨i, hi⟩ : ∃ i, Tryd.prog.info? 188 = some i ∧ i.comparable = true := by
    have h : (Tryd.prog.info? 188).map (·.comparable) = some true := by kernel_rfl
    obtain ⟨i, hi, hc⟩ := Option.map_eq_some_iff.1 h
    exact ⟨i, hi, hc⟩
  obtain ⟨j, hj⟩ : ∃ j, Tryd.prog.info? 203 = some j := by
    have h : (Tryd.prog.info? 203).map (·.size) = some 1 := by kernel_rfl
    obtain ⟨i, hi, hc⟩ := Option.map_eq_some_iff.1 h
    exact ⟨i, hi⟩
  exact run_eql_iface_ptr_same w a Tryd.underlying39 Tryd.underlying188 hi.1 hi.2 hj
theorem eql_other (w : World) (a b : Addr) (ha : ∃ c t, w.heap[a.block]? = some (.cells c t (0, 0))) (hb : ∃ c t, w.heap[b.block]? = some (.cells c t (0, 0))) (hne : a ≠ b) :
    (binOp .eql 39 (.iface 188 (.pointer (some a))) (.iface 188 (.pointer (some b)))).run Tryd.prog w = .ok (.bool false) w := by
  obtain ⟨i, hi⟩ : ∃ i, Tryd.prog.info? 188 = some i ∧ i.comparable = true := by
    have h : (Tryd.prog.info? 188).map (·.comparable) = some true := by kernel_rfl
    obtain ⟨i, hi, hc⟩ := Option.map_eq_some_iff.1 h
    exact ⟨i, hi, hc⟩
  obtain ⟨j, hj⟩ : ∃ j, Tryd.prog.info? 203 = some j ∧ j.size = 1 := by
    have h : (Tryd.prog.info? 203).map (·.size) = some 1 := by kernel_rfl
    obtain ⟨i, hi, hc⟩ := Option.map_eq_some_iff.1 h
    exact ⟨i, hi, hc⟩
  obtain ⟨ca, ta, ha⟩ := ha
  obtain ⟨cb, tb, hb⟩ := hb
  exact run_eql_iface_ptr_other w Tryd.underlying39 Tryd.underlying188 hi.1 hi.2 hj.1 (by omega) hne ha hb

set_option maxHeartbeats 400000 in
theorem alike_same (a : Addr) (w : World) :
    Calls Tryd.prog 122 #[.iface 188 (.pointer (some a)), .iface 188 (.pointer (some a))] w fun e w' => e = .returned (.bool true) ∧ w = w' := by
  have he := fun W => eql_same W a
  go_enter Tryd.func122, Tryd.ntmps122
  go_wp2
  go_ret
  exact ⟨rfl, rfl⟩
set_option maxHeartbeats 400000 in
theorem alike_other (a b : Addr) (w : World) (ha : ∃ c t, w.heap[a.block]? = some (.cells c t (0, 0))) (hb : ∃ c t, w.heap[b.block]? = some (.cells c t (0, 0))) (hne : a ≠ b) :
    Calls Tryd.prog 122 #[.iface 188 (.pointer (some a)), .iface 188 (.pointer (some b))] w fun e w' => e = .returned (.bool false) ∧ w = w' := by
  have he := eql_other w a b ha hb hne
  clear ha hb hne
  go_enter Tryd.func122, Tryd.ntmps122
  go_wp2
  go_ret
  exact ⟨rfl, rfl⟩

theorem cellOf {w : World} {ads : List Addr} (h : Sents w ads) (i g : Nat) (hg : [5, 3, 1, 6, 7, 8, 9, 2, 0, 10, 11, 12, 13, 14, 15, 16, 17, 18, 19, 20, 21][i]? = some g) :
    w.cell? ⟨g, 0, none⟩ = some (.iface 188 (.pointer (some (ads.getD i default)))) := by
  have hi : i < ads.length := by
    rw [h.len]
    rcases Nat.lt_or_ge i 21 with hlt | hge
    · exact hlt
    · rw [List.getElem?_eq_none (by simpa using hge)] at hg; cases hg
  have := (h.at_ i g _ hg (List.getElem?_eq_getElem hi)).cell
  simpa [List.getD, List.getElem?_eq_getElem hi] using this
/-- The sentinel errors as values. -/
def sentVals (ads : List Addr) : Array Value := (ads.map fun a => Value.iface 188 (.pointer (some a))).toArray
/-- What 'sentinels' leaves. -/
def RetSents (w : World) (ads : List Addr) (e : Ending) (w' : World) : Prop :=
  e = .returned (.slice (some ⟨w.heap.size, 0, none⟩) 21 21) ∧ w' = w.alloc (.cells (sentVals ads) 39)
theorem retSents {w : World} {ads : List Addr} (hl : ads.length = 21) {vs : Array Value} (hv : vs = ((List.range 21).map fun i => Value.iface 188 (.pointer (some (ads.getD i default)))).toArray) :
    RetSents w ads (.returned (.slice (some ⟨w.heap.size, 0, none⟩) 21 21)) (w.alloc (.cells vs 39)) := by
  refine ⟨rfl, ?_⟩
  rw [hv]
  congr 3
  refine List.ext_getElem (by simp [hl]) fun i h1 h2 => ?_
  simp [List.getD, List.getElem?_eq_getElem (show i < ads.length by simpa using h2)]
set_option maxHeartbeats 1000000 in
set_option maxRecDepth 100000 in
theorem sentinels_any (w : World) (ads : List Addr) (h : Sents w ads) : Calls Tryd.prog 121 #[] w (RetSents w ads) := by
  have g0 := cellOf h 0 5 rfl
  have g1 := cellOf h 1 3 rfl
  have g2 := cellOf h 2 1 rfl
  have g3 := cellOf h 3 6 rfl
  have g4 := cellOf h 4 7 rfl
  have g5 := cellOf h 5 8 rfl
  have g6 := cellOf h 6 9 rfl
  have g7 := cellOf h 7 2 rfl
  have g8 := cellOf h 8 0 rfl
  have g9 := cellOf h 9 10 rfl
  have g10 := cellOf h 10 11 rfl
  have g11 := cellOf h 11 12 rfl
  have g12 := cellOf h 12 13 rfl
  have g13 := cellOf h 13 14 rfl
  have g14 := cellOf h 14 15 rfl
  have g15 := cellOf h 15 16 rfl
  have g16 := cellOf h 16 17 rfl
  have g17 := cellOf h 17 18 rfl
  have g18 := cellOf h 18 19 rfl
  have g19 := cellOf h 19 20 rfl
  have g20 := cellOf h 20 21 rfl
  have hl := Lib.hid h.len
  clear h
  go_enter Tryd.func121, Tryd.ntmps121
  go_wp2
  go_ret
  exact retSents hl.out rfl
end Go.Proofs.YtacmibkcnmaagaaDoor

/-
  The walks of the statements' helpers over errors: sentinel, Fault, Same. Conditions: each theorem's own premises.
-/
namespace Go.Proofs.YtacmibkcnmaagaaDoor
open Go.RowKit

/-- Where the loop of 'sentinel' stands: none of the first k is it. -/
def SentRel (m : Nat) (i : Value) : Prop := ∃ k : Nat, k ≤ m ∧ i = .int .i64 (k : Int)

theorem sentCell (w : World) (ads : List Addr) (k : Nat) (hk : k < ads.length) : (w.alloc (.cells (sentVals ads) 39)).cell? ⟨w.heap.size, k, none⟩ = some (.iface 188 (.pointer (some ads[k]))) := by
  have := cell_of_row (w.alloc (.cells (sentVals ads) 39)) w.heap.size k (sentVals ads) 39 (0, 0) (heap_alloc_new w _)
  rw [this]
  simp [sentVals, hk]

/-- What 'sentinel' leaves. -/
def RetNo (w : World) (n : Int) (e : Ending) (w' : World) : Prop := e = .returned (.int .i64 n) ∧ Below w.heap.size w w'
set_option maxHeartbeats 1000000 in
set_option maxRecDepth 100000 in
theorem sentinel_any (w : World) (ads : List Addr) (m : Nat) (a : Addr) (h : Sents w ads) (ha : ads[m]? = some a) :
    Calls Tryd.prog 92 #[.iface 188 (.pointer (some a))] w (RetNo w (101 + (m : Int))) := by
  have hm : m < ads.length := (List.getElem?_eq_some_iff.1 ha).1
  have hml : m < 21 := by rw [← h.len]; exact hm
  have H := Lib.hid h
  have HA := Lib.hid ha
  clear h ha
  go_enter Tryd.func92, Tryd.ntmps92
  go_wp2_with fail
  refine (sentinels_any w ads H.out).mono ?_
  rintro e w1 ⟨rfl, rfl⟩
  go_wp2_with fail
  go_loop [4] (fun i => SentRel m i) (fun i => m - (intOf i).toNat)
  case atStart => exact ⟨0, Nat.zero_le _, rfl⟩
  case round =>
    obtain ⟨k, hk, rfl⟩ := hrel
    have hkl : k < ads.length := by omega
    have hc := sentCell w ads k hkl
    obtain ⟨b, hb⟩ : ∃ b, b = ads[k] := ⟨_, rfl⟩
    rw [← hb] at hc
    have HBk : Hid (ads[k]? = some b) := Lib.hid (by rw [hb]; exact List.getElem?_eq_getElem hkl)
    clear hb
    have hk21 : k < 21 := by omega
    have hki : (k : Int) < 21 := by omega
    have hB : Below w.heap.size w (w.alloc (.cells (sentVals ads) 39)) := (Below.refl _ _).alloc (Nat.le_refl _) _
    have HS := Lib.hid (H.out.later hB)
    by_cases hkm : k = m
    · have hab : b = a := by
        have := HBk.out; rw [hkm, HA.out] at this; exact (Option.some.inj this).symm
      subst hab
      have HK := Lib.hid hkm
      clear hkm
      go_wp2_with fail
      refine (alike_same b _).mono ?_
      rintro e w2 ⟨rfl, rfl⟩
      go_wp2
      go_ret
      exact ⟨ret_int (by rw [HK.out]), hB⟩
    · have hlt : k < m := by omega
      go_wp2_with fail
      refine (alike_other a b _ ?ha ?hb ?hne).mono ?_
      case ha => exact (HS.out.at_ m _ a (List.getElem?_eq_getElem (by simpa using hml)) HA.out).block
      case hb => exact (HS.out.at_ k _ b (List.getElem?_eq_getElem (by simpa using hk21)) HBk.out).block
      case hne => exact H.out.apart m k a b HA.out HBk.out (by omega)
      rintro e w2 ⟨rfl, rfl⟩
      go_wp2
      go_round
      case rel => exact ⟨k + 1, by omega, by go_num⟩
      case measure => simp [intOf]; omega

theorem assert_at (b : Addr) (W : World) : (Instr.typeAssert (.iface 62 (.pointer (some b))) 39 62 true).run Tryd.prog W = .ok (.tuple #[.pointer (some b), .bool true]) W := by kernel_rfl
theorem assert_err (b : Addr) (W : World) : (Instr.typeAssert (.iface 188 (.pointer (some b))) 39 62 true).run Tryd.prog W = .ok (.tuple #[.pointer none, .bool false]) W := by kernel_rfl

theorem blk5 {w : World} {g : Nat} {t : TypeId} {v0 v1 v2 v3 v4 : Value} (h : Blk w g t #[v0, v1, v2, v3, v4]) :
    (w.cell? ⟨g, 0, none⟩ = some v0 ∧ w.cell? ⟨g, 1, none⟩ = some v1 ∧ w.cell? ⟨g, 2, none⟩ = some v2 ∧ w.cell? ⟨g, 3, none⟩ = some v3 ∧ w.cell? ⟨g, 4, none⟩ = some v4) ∧
    (w.frozen? ⟨g, 0, none⟩ = false ∧ w.frozen? ⟨g, 1, none⟩ = false ∧ w.frozen? ⟨g, 2, none⟩ = false ∧ w.frozen? ⟨g, 3, none⟩ = false ∧ w.frozen? ⟨g, 4, none⟩ = false) :=
  ⟨⟨h.cell 0, h.cell 1, h.cell 2, h.cell 3, h.cell 4⟩, h.free 0, h.free 1, h.free 2, h.free 3, h.free 4⟩
theorem Sents.drew {w : World} {ads : List Addr} (h : Sents w ads) : Sents w.drew ads := ⟨h.len, fun i g a hg ha => ⟨(h.at_ i g a hg ha).cell, (h.at_ i g a hg ha).block⟩, h.apart⟩
theorem Sents.drewN {w : World} {ads : List Addr} (h : Sents w ads) (n : Nat) : Sents (w.drewN n) ads := ⟨h.len, fun i g a hg ha => ⟨(h.at_ i g a hg ha).cell, (h.at_ i g a hg ha).block⟩, h.apart⟩

set_option maxHeartbeats 1000000 in
set_option maxRecDepth 100000 in
theorem fault_placed (w : World) (ads : List Addr) (m b : Nat) (a : Addr) (pos : Int) (h : Sents w ads) (ha : ads[m]? = some a) (hb : Blk w b 64 #[.int .i64 pos, .iface 188 (.pointer (some a))]) :
    Calls Tryd.prog 45 #[.iface 62 (.pointer (some ⟨b, 0, none⟩))] w (RetB w (fault (101 + (m : Int)) true false pos 0)) := by
  have hc0 : w.cell? ⟨b, 0, none⟩ = some (.int .i64 pos) := hb.cell 0
  have hc1 : w.cell? ⟨b, 1, none⟩ = some (.iface 188 (.pointer (some a))) := hb.cell 1
  have hlt := hb.lt
  have H := Lib.hid h
  have HA := Lib.hid ha
  clear h ha hb
  have t1 := fun W => assert_at ⟨b, 0, none⟩ W
  have t2 := fun W => assert_err a W
  obtain ⟨W0, hW0⟩ : ∃ W0, W0 = w.alloc (.cells #[.int .i64 0, .bool false, .bool false, .int .i64 0, .int .i64 0] 48) := ⟨_, rfl⟩
  have hB0 : Below w.heap.size w W0 := by rw [hW0]; exact (Below.refl _ _).alloc (Nat.le_refl _) _
  have hr0 : Blk W0 w.heap.size 48 #[.int .i64 0, .bool false, .bool false, .int .i64 0, .int .i64 0] := by rw [hW0]; exact heap_alloc_new w _
  have hd0 : W0.cell? ⟨b, 0, none⟩ = some (.int .i64 pos) := (hB0.cell (p := ⟨b, 0, none⟩) hlt).trans hc0
  have hd1 : W0.cell? ⟨b, 1, none⟩ = some (.iface 188 (.pointer (some a))) := (hB0.cell (p := ⟨b, 1, none⟩) hlt).trans hc1
  have HS := Lib.hid (H.out.later hB0).drew
  have hlt0 : b < W0.heap.size := Nat.lt_of_lt_of_le hlt hB0.size
  have HR0 := Lib.hid hr0
  have hsz0 : w.heap.size < W0.heap.size := hr0.lt
  clear hr0
  go_enter Tryd.func45, Tryd.ntmps45
  go_wp2_with fail
  rw [← hW0]
  clear hW0 hc0 hc1
  have hne1 : ¬ w.heap.size = b := by omega
  have hne2 : ¬ b = w.heap.size := by omega
  go_region_held3 (fun W => W.cell? ⟨b, 0, none⟩ = some (.int .i64 pos) ∧ W.cell? ⟨b, 1, none⟩ = some (.iface 188 (.pointer (some a)))) (go_keep)
    (first
      | (go_at_call 92; refine (sentinel_any _ ads m a HS.out HA.out).mono ?_; rintro e w1 ⟨rfl, hB1⟩; have k0 := (hB1.cell (p := ⟨b, 0, none⟩) hlt0).trans hd0; have k1 := (hB1.cell (p := ⟨b, 1, none⟩) hlt0).trans hd1; have z1 : b < w1.heap.size := Nat.lt_of_lt_of_le hlt0 hB1.size; have z2 : w.heap.size < w1.heap.size := Nat.lt_of_lt_of_le hsz0 hB1.size; have R1 := Lib.hid (Blk.below (w := W0.drew) HR0.out hB1 hsz0))
      | (go_at_call 13; refine (placed_any _ pos _ (by omega)).mono ?_; rintro e w2 ⟨rfl, hB2⟩; have k2 := (hB2.cell (p := ⟨b, 0, none⟩) z1).trans k0; have k3 := (hB2.cell (p := ⟨b, 1, none⟩) z1).trans k1; have R2 := Lib.hid (R1.out.below hB2 z2); obtain ⟨⟨c0, c1, c2, c3, c4⟩, f0, f1, f2, f3, f4⟩ := blk5 R2.out; have z3 : w.heap.size < w2.heap.size := Nat.lt_of_lt_of_le z2 hB2.size))
  have hF := ((((R2.out.set 0 (.int .i64 (101 + (m : Int)))).set 1 (.bool true)).set 2 (.bool false)).set 3 (.int .i64 pos)).set 4 (.int .i64 0)
  have hBF : Below w.heap.size w (((((w2.setCell ⟨w.heap.size, 0, none⟩ (.int .i64 (101 + (m : Int)))).setCell ⟨w.heap.size, 1, none⟩ (.bool true)).setCell ⟨w.heap.size, 2, none⟩ (.bool false)).setCell ⟨w.heap.size, 3, none⟩ (.int .i64 pos)).setCell ⟨w.heap.size, 4, none⟩ (.int .i64 0)) :=
    (((((hB0.drew.trans ((hB1.mono hB0.size).trans (hB2.mono (by omega)))).setCell (Nat.le_refl _) _).setCell (Nat.le_refl _) _).setCell (Nat.le_refl _) _).setCell (Nat.le_refl _) _).setCell (Nat.le_refl _) _
  generalize ((((w2.setCell ⟨w.heap.size, 0, none⟩ (.int .i64 (101 + (m : Int)))).setCell ⟨w.heap.size, 1, none⟩ (.bool true)).setCell ⟨w.heap.size, 2, none⟩ (.bool false)).setCell ⟨w.heap.size, 3, none⟩ (.int .i64 pos)).setCell ⟨w.heap.size, 4, none⟩ (.int .i64 0) = wF at hF hBF ⊢
  obtain ⟨⟨d0, d1, d2, d3, d4⟩, _⟩ := blk5 (v0 := .int .i64 (101 + (m : Int))) (v1 := .bool true) (v2 := .bool false) (v3 := .int .i64 pos) (v4 := .int .i64 0) hF
  clear c0 c1 c2 c3 c4 f0 f1 f2 f3 f4 k0 k1 k2 k3 hd0 hd1
  go_wp2
  exact bodyPost_ret (v := fault (101 + (m : Int)) true false pos 0) (by simp [results, Tryd.results45, go_sem, d0, d1, d2, d3, d4]) rfl ⟨rfl, hBF⟩

set_option maxHeartbeats 1000000 in
set_option maxRecDepth 100000 in
theorem fault_nil (w : World) : Calls Tryd.prog 45 #[.nilIface] w (RetB w (fault 0 false false 0 0)) := by
  go_enter Tryd.func45, Tryd.ntmps45
  go_wp2_with fail
  refine (none_any _).mono ?_
  rintro e w1 ⟨rfl, hB1⟩
  have hr0 : Blk (w.alloc (.cells #[.int .i64 0, .bool false, .bool false, .int .i64 0, .int .i64 0] 48)) w.heap.size 48 #[.int .i64 0, .bool false, .bool false, .int .i64 0, .int .i64 0] := heap_alloc_new w _
  have R1 := hr0.below hB1 hr0.lt
  obtain ⟨⟨c0, c1, c2, c3, c4⟩, f0, f1, f2, f3, f4⟩ := blk5 R1
  have z1 := R1.lt
  have hF := ((((R1.set 0 (.int .i64 0)).set 1 (.bool false)).set 2 (.bool false)).set 3 (.int .i64 0)).set 4 (.int .i64 0)
  have hBF : Below w.heap.size w (((((w1.setCell ⟨w.heap.size, 0, none⟩ (.int .i64 0)).setCell ⟨w.heap.size, 1, none⟩ (.bool false)).setCell ⟨w.heap.size, 2, none⟩ (.bool false)).setCell ⟨w.heap.size, 3, none⟩ (.int .i64 0)).setCell ⟨w.heap.size, 4, none⟩ (.int .i64 0)) :=
    ((((((((Below.refl _ _).alloc (Nat.le_refl _) _).trans (hB1.mono (by simp))).setCell (Nat.le_refl _) _).setCell (Nat.le_refl _) _).setCell (Nat.le_refl _) _).setCell (Nat.le_refl _) _).setCell (Nat.le_refl _) _)
  have HF := Lib.hid hF
  have HBF := Lib.hid hBF
  clear hr0 R1 hF hBF
  go_wp2
  obtain ⟨⟨d0, d1, d2, d3, d4⟩, _⟩ := blk5 (v0 := .int .i64 0) (v1 := .bool false) (v2 := .bool false) (v3 := .int .i64 0) (v4 := .int .i64 0) HF.out
  exact bodyPost_ret (v := fault 0 false false 0 0) (by simp [results, Tryd.results45, go_sem, d0, d1, d2, d3, d4]) rfl ⟨rfl, HBF.out⟩

/-- A fault in a new block, as cells. -/
def Box5 (W : World) (g : Nat) (c p : Int) (a : Bool) : Prop :=
  W.cell? ⟨g, 0, none⟩ = some (.int .i64 c) ∧ W.cell? ⟨g, 1, none⟩ = some (.bool a) ∧ W.cell? ⟨g, 2, none⟩ = some (.bool false) ∧ W.cell? ⟨g, 3, none⟩ = some (.int .i64 p) ∧ W.cell? ⟨g, 4, none⟩ = some (.int .i64 0)
theorem Box5.below {W W' : World} {g : Nat} {c p : Int} {a : Bool} {B : Nat} (h : Box5 W g c p a) (hb : Below B W W') (hg : g < B) : Box5 W' g c p a :=
  ⟨(hb.cell (p := ⟨g, 0, none⟩) hg).trans h.1, (hb.cell (p := ⟨g, 1, none⟩) hg).trans h.2.1, (hb.cell (p := ⟨g, 2, none⟩) hg).trans h.2.2.1, (hb.cell (p := ⟨g, 3, none⟩) hg).trans h.2.2.2.1, (hb.cell (p := ⟨g, 4, none⟩) hg).trans h.2.2.2.2⟩
set_option maxHeartbeats 1000000 in
set_option maxRecDepth 100000 in
theorem same_fault (w : World) (v : Value) (c p : Int) (a : Bool) (hF : ∀ W, Below w.heap.size w W → Calls Tryd.prog 45 #[v] W (RetB W (fault c a false p 0))) :
    Calls Tryd.prog 12 #[v, fault c a false p 0] w (RetB w (.bool true)) := by
  obtain ⟨W0, hW0⟩ : ∃ W0, W0 = w.alloc (.cells #[.int .i64 c, .bool a, .bool false, .int .i64 p, .int .i64 0] 48) := ⟨_, rfl⟩
  have hB0 : Below w.heap.size w W0 := by rw [hW0]; exact (Below.refl _ _).alloc (Nat.le_refl _) _
  have hr0 : Blk W0 w.heap.size 48 #[.int .i64 c, .bool a, .bool false, .int .i64 p, .int .i64 0] := by rw [hW0]; exact heap_alloc_new w _
  have hsz := hr0.lt
  obtain ⟨⟨c0, c1, c2, c3, c4⟩, _⟩ := blk5 hr0
  have HX := Lib.hid (show Box5 W0.drew w.heap.size c p a from ⟨c0, c1, c2, c3, c4⟩)
  have HF := Lib.hid (hF W0.drew hB0.drew)
  clear hr0 hF
  go_enter Tryd.func12, Tryd.ntmps12
  go_wp2_with fail
  rw [← hW0]
  clear hW0
  go_region_held3 (fun W => W.cell? ⟨w.heap.size, 0, none⟩ = some (.int .i64 c) ∧ W.cell? ⟨w.heap.size, 1, none⟩ = some (.bool a) ∧ W.cell? ⟨w.heap.size, 2, none⟩ = some (.bool false) ∧ W.cell? ⟨w.heap.size, 3, none⟩ = some (.int .i64 p) ∧ W.cell? ⟨w.heap.size, 4, none⟩ = some (.int .i64 0)) (go_keep)
    (first
      | (go_at_call 45; refine HF.out.mono ?_; rintro e w1 ⟨rfl, hB1⟩; have hx1 := Lib.hid (HX.out.below hB1 hsz); have z1 : w.heap.size < w1.heap.size := Nat.lt_of_lt_of_le hsz hB1.size; obtain ⟨k0, k1, k2, k3, k4⟩ := hx1.out)
      | (go_at_call 44; refine (sameFault_eq c p a _).mono ?_; rintro e w2 ⟨rfl, hB2⟩; obtain ⟨l0, l1, l2, l3, l4⟩ := hx1.out.below hB2 z1))
  go_wp2
  go_ret
  exact ⟨rfl, hB0.drew.trans ((hB1.mono hB0.size).trans (hB2.mono (by omega)))⟩
end Go.Proofs.YtacmibkcnmaagaaDoor

/-
  The walks of pendulumsee.Fault at a sentinel, and of Is. Conditions: each theorem's own premises.
-/
namespace Go.Proofs.YtacmibkcnmaagaaDoor
open Go.RowKit

set_option maxHeartbeats 1000000 in
set_option maxRecDepth 100000 in
theorem fault_bare (w : World) (ads : List Addr) (m : Nat) (a : Addr) (h : Sents w ads) (ha : ads[m]? = some a) :
    Calls Tryd.prog 45 #[.iface 188 (.pointer (some a))] w (RetB w (fault (101 + (m : Int)) false false 0 0)) := by
  have t1 := fun W => assert_err a W
  have hr0 : Blk (w.alloc (.cells #[.int .i64 0, .bool false, .bool false, .int .i64 0, .int .i64 0] 48)) w.heap.size 48 #[.int .i64 0, .bool false, .bool false, .int .i64 0, .int .i64 0] := heap_alloc_new w _
  have hB0 : Below w.heap.size w (w.alloc (.cells #[.int .i64 0, .bool false, .bool false, .int .i64 0, .int .i64 0] 48)) := (Below.refl _ _).alloc (Nat.le_refl _) _
  have H0 := Lib.hid (h.later hB0)
  have HA := Lib.hid ha
  clear h ha
  go_enter Tryd.func45, Tryd.ntmps45
  go_wp2_with fail
  refine (sentinel_any _ ads m a H0.out HA.out).mono ?_
  rintro e w1 ⟨rfl, hB1⟩
  have R1 := hr0.below hB1 hr0.lt
  have hBa := hB0.trans (hB1.mono hB0.size)
  clear hr0 hB0 hB1
  go_wp2_with fail
  refine (bare_any _ _).mono ?_
  rintro e w2 ⟨rfl, hB2⟩
  have R2 := R1.below hB2 R1.lt
  have hBb := hBa.trans (hB2.mono hBa.size)
  obtain ⟨⟨c0, c1, c2, c3, c4⟩, f0, f1, f2, f3, f4⟩ := blk5 R2
  have z2 := R2.lt
  have hF := ((((R2.set 0 (.int .i64 (101 + (m : Int)))).set 1 (.bool false)).set 2 (.bool false)).set 3 (.int .i64 0)).set 4 (.int .i64 0)
  have hBF : Below w.heap.size w (((((w2.setCell ⟨w.heap.size, 0, none⟩ (.int .i64 (101 + (m : Int)))).setCell ⟨w.heap.size, 1, none⟩ (.bool false)).setCell ⟨w.heap.size, 2, none⟩ (.bool false)).setCell ⟨w.heap.size, 3, none⟩ (.int .i64 0)).setCell ⟨w.heap.size, 4, none⟩ (.int .i64 0)) :=
    (((((hBb.setCell (Nat.le_refl _) _).setCell (Nat.le_refl _) _).setCell (Nat.le_refl _) _).setCell (Nat.le_refl _) _).setCell (Nat.le_refl _) _)
  have HF := Lib.hid hF
  have HBF := Lib.hid hBF
  clear R1 R2 hF hBF hBa hBb hB2
  go_wp2
  obtain ⟨⟨d0, d1, d2, d3, d4⟩, _⟩ := blk5 (v0 := .int .i64 (101 + (m : Int))) (v1 := .bool false) (v2 := .bool false) (v3 := .int .i64 0) (v4 := .int .i64 0) HF.out
  exact bodyPost_ret (v := fault (101 + (m : Int)) false false 0 0) (by simp [results, Tryd.results45, go_sem, d0, d1, d2, d3, d4]) rfl ⟨rfl, HBF.out⟩

set_option maxHeartbeats 1000000 in
set_option maxRecDepth 100000 in
theorem is_gen (w : World) (v : Value) (c : Int) (hF : ∀ W, Below w.heap.size w W → Calls Tryd.prog 45 #[v] W (RetB W (fault c false false 0 0))) :
    Calls Tryd.prog 10 #[v, .int .i64 c] w (RetB w (.bool true)) := by
  have HF := Lib.hid hF
  clear hF
  go_enter Tryd.func10, Tryd.ntmps10
  go_wp2_with fail
  refine (bare_any c _).mono ?_
  rintro e w1 ⟨rfl, hB1⟩
  go_wp2_with fail
  refine (same_fault w1 v c 0 false (fun W hW => HF.out W (hB1.trans (hW.mono hB1.size)))).mono ?_
  rintro e w2 ⟨rfl, hB2⟩
  have HB := Lib.hid (hB1.trans (hB2.mono hB1.size))
  clear hB1 hB2
  go_wp2
  go_ret
  exact ⟨rfl, HB.out⟩
/-- No error is 0. -/
theorem is_nil (w : World) : Calls Tryd.prog 10 #[.nilIface, .int .i64 0] w (RetB w (.bool true)) := is_gen w _ 0 fun W _ => fault_nil W
/-- A sentinel is its number. -/
theorem is_err (w : World) (ads : List Addr) (m : Nat) (a : Addr) (c : Int) (hc : c = 101 + (m : Int)) (h : Sents w ads) (ha : ads[m]? = some a) :
    Calls Tryd.prog 10 #[.iface 188 (.pointer (some a)), .int .i64 c] w (RetB w (.bool true)) := by
  subst hc
  exact is_gen w _ _ fun W hW => fault_bare W ads m a (h.later hW) ha
end Go.Proofs.YtacmibkcnmaagaaDoor
