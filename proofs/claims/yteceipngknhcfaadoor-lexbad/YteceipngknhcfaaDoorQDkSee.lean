/-
  The walks of the statements' helpers over errors: None, Bare, Placed, SameFault, Alike, sentinels, sentinel, Fault, Same. Conditions: each theorem's own premises.
-/
import Derived.Test.YteceipngknhcfaaDoorQBlk
import Derived.Test.YteceipngknhcfaaDoorQLaid
import Derived.LaidEql
import Derived.Deep.RegionHeld3
namespace Go.Proofs.YteceipngknhcfaaDoor
open Go.RowKit

/-- A fault as a value. -/
abbrev fault (code : Int) (placed deep : Bool) (pos at_ : Int) : Value := .agg #[.int .i64 code, .bool placed, .bool deep, .int .i64 pos, .int .i64 at_]
def RetB (w : World) (v : Value) (e : Ending) (w' : World) : Prop := e = .returned v ∧ Below w.heap.size w w'

set_option maxHeartbeats 400000 in
theorem none_any (w : World) : Calls Tryd.prog 27 #[] w (RetB w (fault 0 false false 0 0)) := by
  go_enter Tryd.func27, Tryd.ntmps27
  go_wp2
  exact bodyPost_ret (v := fault 0 false false 0 0) (by simp [results, Tryd.results27, go_sem]) rfl ⟨rfl, (Below.refl _ _).alloc (Nat.le_refl _) _⟩
set_option maxHeartbeats 400000 in
theorem bare_any (code : Int) (w : World) : Calls Tryd.prog 45 #[.int .i64 code] w (RetB w (fault code false false 0 0)) := by
  go_enter Tryd.func45, Tryd.ntmps45
  go_wp2
  exact bodyPost_ret (v := fault code false false 0 0) (by simp [results, Tryd.results45, go_sem]) rfl ⟨rfl, (Below.refl _ _).alloc (Nat.le_refl _) _⟩
set_option maxHeartbeats 400000 in
theorem placed_any (code pos : Int) (w : World) (h : 101 ≤ code) : Calls Tryd.prog 26 #[.int .i64 code, .int .i64 pos] w (RetB w (fault code true false pos 0)) := by
  have hb : (code == 0) = false := beq_eq_false_iff_ne.2 (by omega)
  go_enter Tryd.func26, Tryd.ntmps26
  go_wp2
  exact bodyPost_ret (v := fault code true false pos 0) (by simp [results, Tryd.results26, go_sem]) rfl ⟨rfl, (Below.refl _ _).alloc (Nat.le_refl _) _⟩
set_option maxHeartbeats 400000 in
set_option maxRecDepth 100000 in
theorem sameFault_eq (c p : Int) (a : Bool) (w : World) : Calls Tryd.prog 29 #[fault c a false p 0, fault c a false p 0] w (RetB w (.bool true)) := by
  cases a <;>
  · go_enter Tryd.func29, Tryd.ntmps29
    go_wp2
    go_ret
    exact ⟨rfl, ((Below.refl _ _).alloc (Nat.le_refl _) _).alloc (by simp) _⟩

/-- The program's sentinel errors, in the order in which see.go lists them: where they lie, all apart. -/
structure Sents (w : World) (ads : List Addr) : Prop where
  len : ads.length = 21
  at_ : ∀ (i g : Nat) (a : Addr), [3, 4, 0, 5, 1, 6, 2, 7, 8, 9, 10, 11, 12, 13, 14, 15, 16, 17, 18, 19, 20][i]? = some g → ads[i]? = some a → Sentinel w g a
  apart : ∀ (i j : Nat) (a b : Addr), ads[i]? = some a → ads[j]? = some b → i ≠ j → a ≠ b
theorem Sentinel.later {w w' : World} {g : Nat} {a : Addr} (h : Sentinel w g a) (hb : Below w.heap.size w w') : Sentinel w' g a := by
  obtain ⟨c, t, hc⟩ := h.block
  exact ⟨(hb.cell (World.block_lt_of_cell? w _ h.cell)).trans h.cell, c, t, (hb.block _ (Array.getElem?_eq_some_iff.1 hc).1).trans hc⟩
theorem Sents.later {w w' : World} {ads : List Addr} (h : Sents w ads) (hb : Below w.heap.size w w') : Sents w' ads := ⟨h.len, fun i g a hg ha => (h.at_ i g a hg ha).later hb, h.apart⟩

theorem eql_same (w : World) (a : Addr) : (binOp .eql 25 (.iface 125 (.pointer (some a))) (.iface 125 (.pointer (some a)))).run Tryd.prog w = .ok (.bool true) w := by
  obtain ⟨i, hi⟩ : ∃ i, Tryd.prog.info? 125 = some i ∧ i.comparable = true := by
    have h : (Tryd.prog.info? 125).map (·.comparable) = some true := by kernel_rfl
    obtain ⟨i, hi, hc⟩ := Option.map_eq_some_iff.1 h
    exact ⟨i, hi, hc⟩
  obtain ⟨j, hj⟩ : ∃ j, Tryd.prog.info? 127 = some j := by
    have h : (Tryd.prog.info? 127).map (·.size) = some 1 := by kernel_rfl
    obtain ⟨i, hi, hc⟩ := Option.map_eq_some_iff.1 h
    exact ⟨i, hi⟩
  exact run_eql_iface_ptr_same w a Tryd.underlying25 Tryd.underlying125 hi.1 hi.2 hj
theorem eql_other (w : World) (a b : Addr) (ha : ∃ c t, w.heap[a.block]? = some (.cells c t (0, 0))) (hb : ∃ c t, w.heap[b.block]? = some (.cells c t (0, 0))) (hne : a ≠ b) :
    (binOp .eql 25 (.iface 125 (.pointer (some a))) (.iface 125 (.pointer (some b)))).run Tryd.prog w = .ok (.bool false) w := by
  obtain ⟨i, hi⟩ : ∃ i, Tryd.prog.info? 125 = some i ∧ i.comparable = true := by
    have h : (Tryd.prog.info? 125).map (·.comparable) = some true := by kernel_rfl
    obtain ⟨i, hi, hc⟩ := Option.map_eq_some_iff.1 h
    exact ⟨i, hi, hc⟩
  obtain ⟨j, hj⟩ : ∃ j, Tryd.prog.info? 127 = some j ∧ j.size = 1 := by
    have h : (Tryd.prog.info? 127).map (·.size) = some 1 := by kernel_rfl
    obtain ⟨i, hi, hc⟩ := Option.map_eq_some_iff.1 h
    exact ⟨i, hi, hc⟩
  obtain ⟨ca, ta, ha⟩ := ha
  obtain ⟨cb, tb, hb⟩ := hb
  exact run_eql_iface_ptr_other w Tryd.underlying25 Tryd.underlying125 hi.1 hi.2 hj.1 (by omega) hne ha hb

set_option maxHeartbeats 400000 in
theorem alike_same (a : Addr) (w : World) :
    Calls Tryd.prog 62 #[.iface 125 (.pointer (some a)), .iface 125 (.pointer (some a))] w fun e w' => e = .returned (.bool true) ∧ w = w' := by
  have he := fun W => eql_same W a
  go_enter Tryd.func62, Tryd.ntmps62
  go_wp2
  go_ret
  exact ⟨rfl, rfl⟩
set_option maxHeartbeats 400000 in
theorem alike_other (a b : Addr) (w : World) (ha : ∃ c t, w.heap[a.block]? = some (.cells c t (0, 0))) (hb : ∃ c t, w.heap[b.block]? = some (.cells c t (0, 0))) (hne : a ≠ b) :
    Calls Tryd.prog 62 #[.iface 125 (.pointer (some a)), .iface 125 (.pointer (some b))] w fun e w' => e = .returned (.bool false) ∧ w = w' := by
  have he := eql_other w a b ha hb hne
  clear ha hb hne
  go_enter Tryd.func62, Tryd.ntmps62
  go_wp2
  go_ret
  exact ⟨rfl, rfl⟩

theorem cellOf {w : World} {ads : List Addr} (h : Sents w ads) (i g : Nat) (hg : [3, 4, 0, 5, 1, 6, 2, 7, 8, 9, 10, 11, 12, 13, 14, 15, 16, 17, 18, 19, 20][i]? = some g) :
    w.cell? ⟨g, 0, none⟩ = some (.iface 125 (.pointer (some (ads.getD i default)))) := by
  have hi : i < ads.length := by
    rw [h.len]
    rcases Nat.lt_or_ge i 21 with hlt | hge
    · exact hlt
    · rw [List.getElem?_eq_none (by simpa using hge)] at hg; cases hg
  have := (h.at_ i g _ hg (List.getElem?_eq_getElem hi)).cell
  simpa [List.getD, List.getElem?_eq_getElem hi] using this
/-- The sentinel errors as values. -/
def sentVals (ads : List Addr) : Array Value := (ads.map fun a => Value.iface 125 (.pointer (some a))).toArray
/-- What 'sentinels' leaves. -/
def RetSents (w : World) (ads : List Addr) (e : Ending) (w' : World) : Prop :=
  e = .returned (.slice (some ⟨w.heap.size, 0, none⟩) 21 21) ∧ w' = w.alloc (.cells (sentVals ads) 25)
theorem retSents {w : World} {ads : List Addr} (hl : ads.length = 21) {vs : Array Value} (hv : vs = ((List.range 21).map fun i => Value.iface 125 (.pointer (some (ads.getD i default)))).toArray) :
    RetSents w ads (.returned (.slice (some ⟨w.heap.size, 0, none⟩) 21 21)) (w.alloc (.cells vs 25)) := by
  refine ⟨rfl, ?_⟩
  rw [hv]
  congr 3
  refine List.ext_getElem (by simp [hl]) fun i h1 h2 => ?_
  simp [List.getD, List.getElem?_eq_getElem (show i < ads.length by simpa using h2)]
set_option maxHeartbeats 1000000 in
set_option maxRecDepth 100000 in
theorem sentinels_any (w : World) (ads : List Addr) (h : Sents w ads) : Calls Tryd.prog 61 #[] w (RetSents w ads) := by
  have g0 := cellOf h 0 3 rfl
  have g1 := cellOf h 1 4 rfl
  have g2 := cellOf h 2 0 rfl
  have g3 := cellOf h 3 5 rfl
  have g4 := cellOf h 4 1 rfl
  have g5 := cellOf h 5 6 rfl
  have g6 := cellOf h 6 2 rfl
  have g7 := cellOf h 7 7 rfl
  have g8 := cellOf h 8 8 rfl
  have g9 := cellOf h 9 9 rfl
  have g10 := cellOf h 10 10 rfl
  have g11 := cellOf h 11 11 rfl
  have g12 := cellOf h 12 12 rfl
  have g13 := cellOf h 13 13 rfl
  have g14 := cellOf h 14 14 rfl
  have g15 := cellOf h 15 15 rfl
  have g16 := cellOf h 16 16 rfl
  have g17 := cellOf h 17 17 rfl
  have g18 := cellOf h 18 18 rfl
  have g19 := cellOf h 19 19 rfl
  have g20 := cellOf h 20 20 rfl
  have hl := Lib.hid h.len
  clear h
  go_enter Tryd.func61, Tryd.ntmps61
  go_wp2
  go_ret
  exact retSents hl.out rfl
end Go.Proofs.YteceipngknhcfaaDoor
