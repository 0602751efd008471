/-
  The disk's errors out of the list of the sentinels; New where there may be no disk; new bytes. Conditions: each theorem's own premises.
-/
import Derived.Test.YtgombgkfocpacaaDoorDkIs
namespace Go.Proofs.YtgombgkfocpacaaDoor
open Go.RowKit Go.Maps

/-- The errors of the disk, out of all. -/
theorem es_of {w : World} {ads : List Addr} (h : Sents w ads) : Es w (ads.getD 3 default) (ads.getD 18 default) (ads.getD 17 default) (ads.getD 2 default) :=
  ⟨cellOf h 3 _ rfl, cellOf h 18 _ rfl, cellOf h 17 _ rfl, cellOf h 2 _ rfl⟩
theorem ads_at {w : World} {ads : List Addr} (h : Sents w ads) (i : Nat) (hi : i < 21) : ads[i]? = some (ads.getD i default) := by
  have hl : i < ads.length := by rw [h.len]; exact hi
  simp [List.getD, List.getElem?_eq_getElem hl]
theorem es_low {w : World} {aR aC aF aM : Addr} (h : Es w aR aC aF aM) {g : Nat} (hg : w.heap.size ≤ g) : 0 < g ∧ 1 < g ∧ 2 < g ∧ 3 < g :=
  ⟨Nat.lt_of_lt_of_le (World.block_lt_of_cell? w _ h.r) hg, Nat.lt_of_lt_of_le (World.block_lt_of_cell? w _ h.c) hg, Nat.lt_of_lt_of_le (World.block_lt_of_cell? w _ h.f) hg, Nat.lt_of_lt_of_le (World.block_lt_of_cell? w _ h.m) hg⟩

/-- What New leaves where there may be none. -/
def RetNo4 (a : Addr) (w : World) (e : Ending) (w' : World) : Prop := e = .returned (.tuple #[.pointer none, .iface 122 (.pointer (some a))]) ∧ Below w.heap.size w w'
set_option maxRecDepth 100000 in
set_option maxHeartbeats 400000 in
theorem new_err (n : Int) (w : World) (aR aC aF aM : Addr) (hE : Es w aR aC aF aM) (h : n < 1 ∨ 16384 < n) : Calls Tryd.prog 10 #[.int .i64 n] w (RetNo4 aR w) := by
  have eR := hE.r
  clear hE
  by_cases h1 : n < 1
  · go_enter Tryd.func10, Tryd.ntmps10
    go_wp2_with fail
    go_quiet (fail)
    go_wp2
    go_ret2
    exact ⟨rfl, below_drewN _ _⟩
  · have h2 : 16384 < n := by omega
    go_enter Tryd.func10, Tryd.ntmps10
    go_wp2_with fail
    go_quiet (fail)
    go_wp2
    go_ret2
    exact ⟨rfl, below_drewN _ _⟩

/-- Bytes, all 0. -/
def zeroB (n : Nat) : Array Value := madeCells #[.int .u8 0] n
theorem make_bytes (n : Nat) (w : World) (h : n ≤ 16384) : (Instr.makeSlice 33 (.int .i64 (n : Int)) (.int .i64 (n : Int))).run Tryd.prog w = .ok (.slice (some ⟨w.heap.size, 0, none⟩) n n) (w.alloc (.cells (zeroB n) 5)) := by
  obtain ⟨i, hi, hz, hs, hb⟩ := info_parts Tryd.info8
  have := run_make (P := Tryd.prog) w 33 5 i _ Tryd.underlying33 hi hz .i64 .i64 (n : Int) (n : Int) (by omega) (by omega) (by rw [hb]; omega) (by omega)
  rw [this, hs]
  simp only [Int.toNat_natCast, Nat.mul_one]
  rfl
theorem str_zero (n : Nat) (w : World) : Str (w.alloc (.cells (zeroB n) 5)) (w.heap.size + 1) (some ⟨w.heap.size, 0, none⟩) (List.replicate n 0) := by
  refine ⟨fun _ => ⟨_, rfl, by simp, fun j v hv => ?_⟩⟩
  rw [List.getElem?_replicate] at hv
  split at hv
  · rename_i hj
    cases hv
    rw [lit_add]
    refine (Blk.cell (heap_alloc_new w _) j).trans ?_
    unfold zeroB
    rw [made_cell _ _ _ hj]
    have e1 : j % 1 = 0 := by omega
    show some (#[Value.int .u8 0][j % 1]!) = _
    rw [e1]
    rfl
  · cases hv
end Go.Proofs.YtgombgkfocpacaaDoor
