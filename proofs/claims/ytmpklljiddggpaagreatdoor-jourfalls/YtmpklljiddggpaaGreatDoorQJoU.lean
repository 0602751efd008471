/-
  The library's Chunk at bytes: its contract as an iterator. Conditions: each theorem's own premises.
-/
import Derived.Test.YtmpklljiddggpaaGreatDoorQJoN
import Derived.RangeFuncNested
import Derived.RangeFuncBound
import Derived.RangeFuncCalls
import Derived.RangeFuncLeaves
import Derived.RangeFuncBox
import Derived.Shelf.Abstract
import Derived.Shelf.RegionOpen
import Derived.OwnWalkIn
import Derived.TacticsInMore
import Derived.LoopNIn
import Derived.LoopIn
namespace Go.Proofs.YtmpklljiddggpaaGreatDoor
open Go.Shelf Go.RowKit Go.Lib Go.Sort
attribute [local go_sem] Oper.semAt_some

/-- Some blocks lie as they lay. -/
def KeepB (K : List Nat) (W W' : World) : Prop := ∀ k ∈ K, W'.heap[k]? = W.heap[k]?
theorem KeepB.refl (K : List Nat) (W : World) : KeepB K W W := fun _ _ => rfl
theorem KeepB.trans {K : List Nat} {A B C : World} (h : KeepB K A B) (k : KeepB K B C) : KeepB K A C := fun i hi => (k i hi).trans (h i hi)
theorem KeepB.put {K : List Nat} {w : World} (hK : ∀ k ∈ K, k < w.heap.size) (W : World) (l : Nat) (o o' : Obj) (hl : w.heap.size ≤ l) (_ : W.heap[l]? = some o) (_ : o.isCells = false) (_ : o.isWalk = false) : KeepB K W (W.putObj l o') :=
  fun k hk => World.putObj_heap_other (by have := hK k hk; omega)
theorem KeepB.cell {K : List Nat} {W W' : World} (h : KeepB K W W') {p : Addr} (hp : p.block ∈ K) : W'.cell? p = W.cell? p := World.cell?_of_block (h _ hp)

/-- The i-th part of 128 of n bytes, as a value. -/
def partV (rw n i : Nat) : Value := .slice (some ⟨rw, i * 128, none⟩) (min 128 (n - i * 128)) (min 128 (n - i * 128))

/-- How the iterator ends. -/
def ChPost (K : Nat) (J Jx : List Nat → World → Prop) (e : Ending) (W' : World) : Prop := (∃ v, e = .returned v) ∧ ((∃ ys, ys = List.range K ∧ J ys W') ∨ (∃ pre, pre.length ≤ K ∧ pre = List.range pre.length ∧ Jx pre W'))
set_option maxRecDepth 100000 in
set_option maxHeartbeats 2000000 in
theorem chunk1_in (q : Nat) (hq : 1 ≤ q) (l bS bN rw n c : Nat) (hnc : n ≤ c) (hn : n ≤ 1099511627776) (J Jx : List Nat → World → Prop)
    (hY : ∀ pre x W, J pre W → pre.length < (n + 127) / 128 → YieldAt Fence.wide (q - 1) Tryz.prog l #[partV rw n x] W fun e W' =>
      (e = .returned (.bool true) ∧ J (pre ++ [x]) W' ∧ KeepB [bS, bN] W W') ∨ (e = .returned (.bool false) ∧ Jx (pre ++ [x]) W'))
    (W : World) (hS : W.cell? ⟨bS, 0, none⟩ = some (.slice (some ⟨rw, 0, none⟩) n c)) (hN : W.cell? ⟨bN, 0, none⟩ = some (.int .i64 128)) (h0 : J [] W) (hd : AbidesFrom W.heap.size J) :
    CallsIn Fence.wide q Tryz.prog 75 #[.func (.yield l) #[] #[], .pointer (some ⟨bS, 0, none⟩), .pointer (some ⟨bN, 0, none⟩)] W (ChPost ((n + 127) / 128) J Jx) := by
  refine callsIn_of_wp Tryz.func75 rfl trivial ?_ rfl
  simp only [Tryz.ntmps75, List.size_toArray, List.length_cons, List.length_nil, Nat.reduceAdd, Nat.reduceSub, Array.replicate_succ, Array.replicate_zero, List.push_toArray, List.append_toArray, List.nil_append, List.cons_append]
  gi_wp2
  gi_loopw [4] (fun i wr => ∃ k : Nat, k ≤ (n + 127) / 128 ∧ i = .int .i64 ((k * 128 : Nat) : Int) ∧ J (List.range k) wr ∧ KeepB [bS, bN] W wr)
    (fun i _ => n + 128 - (intOf i).toNat)
  case atStart => exact ⟨0, Nat.zero_le _, rfl, h0, KeepB.refl _ _⟩
  case round =>
    obtain ⟨k, hk, rfl, hJs, hKp⟩ := hrel
    have hS1 := (hKp.cell (p := ⟨bS, 0, none⟩) (by simp)).trans hS
    have hN1 := (hKp.cell (p := ⟨bN, 0, none⟩) (by simp)).trans hN
    obtain ⟨p, hp⟩ : ∃ p, p = k * 128 := ⟨_, rfl⟩
    rw [← hp]
    have HP := Lib.hid hp
    have HKp := Lib.hid hKp
    clear hp hKp
    by_cases hlt : p < n
    · have hltI : (p : Int) < n := by omega
      have hpc : p < c := by omega
      have HJ := Lib.hid hJs
      have HY := Lib.hid hY
      have HD := Lib.hid hd
      clear hJs hY hd
      gi_wp2
      gi_region
      have hJ9 := HD.out _ _ wr.drew none (show J (List.range k) wr from HJ.out) (grown_drewN (grown_refl wr none) 1) (fun r e => by cases e)
      have hS9 : wr.drew.cell? ⟨bS, 0, none⟩ = some (.slice (some ⟨rw, 0, none⟩) n c) := hS1
      have hN9 : wr.drew.cell? ⟨bN, 0, none⟩ = some (.int .i64 128) := hN1
      have hK9 : KeepB [bS, bN] W wr.drew := HKp.out.trans (fun k _ => rfl)
      have HK9 := Lib.hid hK9
      obtain ⟨fn, tmps, assign, body, hy, hR⟩ := HY.out _ k wr.drew hJ9 (by rw [List.length_range]; have := HP.out; omega)
      obtain ⟨e, he⟩ : ∃ e : Nat, e = min 128 (n - p) := ⟨_, rfl⟩
      unfold partV at hy
      rw [← HP.out, ← he] at hy
      rw [show min (128 : Int) ((n - p : Nat) : Int) = (e : Int) by omega]
      have he1 : p + e ≤ n ∧ e ≤ 128 ∧ 0 < e := by omega
      have he2 : p < p + e := by omega
      have HEe := Lib.hid he
      generalize wr.drew = w9 at *
      clear hS1 hN1 he hJ9 hK9 HJ
      gi_wp2
      refine hR.mono ?_
      rintro e2 W3 (⟨rfl, hJ3, hk3⟩ | ⟨rfl, hJx3⟩)
      · have hN3 := (hk3.cell (p := ⟨bN, 0, none⟩) (by simp)).trans hN9
        have HJ3 := Lib.hid hJ3
        have HK3 := Lib.hid (HK9.out.trans hk3)
        clear hJ3 hk3 hS9 hN9
        gi_wp2
        go_roundw
        case rel => exact ⟨k + 1, by have := HP.out; omega, by have := HP.out; rw [show (k + 1) * 128 = p + 128 by omega]; go_num, by rw [List.range_succ]; exact HJ3.out, HK3.out⟩
        case measure => simp [intOf]; omega
      · gi_wp2
        refine bodyPost_ret (results_none rfl _ _ _) rfl ?_
        exact ⟨⟨_, rfl⟩, .inr ⟨_, by simp; have := HP.out; omega, by simp [List.range_succ], hJx3⟩⟩
    · have hltI : ¬ (p : Int) < n := by omega
      gi_wp2
      go_end0
      have hkK : k = (n + 127) / 128 := by have := HP.out; omega
      exact ⟨⟨_, rfl⟩, .inl ⟨_, rfl, by rw [← hkK]; exact hJs⟩⟩

set_option maxRecDepth 100000 in
set_option maxHeartbeats 1000000 in
theorem chunk1_nil (q l bS bN : Nat) (J : List Nat → World → Prop) (W : World) (hS : W.cell? ⟨bS, 0, none⟩ = some (.slice none 0 0)) (h0 : J [] W) :
    CallsIn Fence.wide q Tryz.prog 75 #[.func (.yield l) #[] #[], .pointer (some ⟨bS, 0, none⟩), .pointer (some ⟨bN, 0, none⟩)] W fun e W' => (∃ v, e = .returned v) ∧ J [] W' := by
  refine callsIn_of_wp Tryz.func75 rfl trivial ?_ rfl
  simp only [Tryz.ntmps75, List.size_toArray, List.length_cons, List.length_nil, Nat.reduceAdd, Nat.reduceSub, Array.replicate_succ, Array.replicate_zero, List.push_toArray, List.append_toArray, List.nil_append, List.cons_append]
  gi_wp2
  gi_loopw [4] (fun i wr => i = .int .i64 0 ∧ J [] wr ∧ wr.cell? ⟨bS, 0, none⟩ = some (.slice none 0 0)) (fun _ _ => 0)
  case atStart => exact ⟨rfl, h0, hS⟩
  case round =>
    obtain ⟨rfl, hJs, hS1⟩ := hrel
    gi_wp2
    go_end0
    exact ⟨⟨_, rfl⟩, hJs⟩

theorem chunk_mk (A : Option Addr) (n c : Nat) (w : World) : Calls Tryz.prog 49 #[.slice A n c, .int .i64 128] w fun e w' => e = .returned (.func (.func 75) #[] #[.pointer (some ⟨w.heap.size, 0, none⟩), .pointer (some ⟨w.heap.size + 1, 0, none⟩)]) ∧ w' = (w.alloc (.cells #[.slice A n c] 88)).alloc (.cells #[.int .i64 128] 3) := by
  go_enter Tryz.func49, Tryz.ntmps49
  go_wp2
  go_ret
  exact ⟨rfl, rfl⟩

/-- The parts come one by one: what Chunk's value does, over bytes of our own. -/
theorem chunk_stops (q : Nat) (hq : 1 ≤ q) (bS bN : Nat) (A : Option Addr) (c base : Nat) (b : List UInt8) (w : World) (hB : OwnB w base (.slice A b.length c) b) (hn : b.length ≤ 1099511627776) (hSl : bS < w.heap.size) (hNl : bN < w.heap.size)
    (hS : w.cell? ⟨bS, 0, none⟩ = some (.slice A b.length c)) (hN : w.cell? ⟨bN, 0, none⟩ = some (.int .i64 128)) :
    ∃ rw, (rw = 0 ∨ A = some ⟨rw, 0, none⟩) ∧ (∀ g, A = some ⟨g, 0, none⟩ → g = rw) ∧ SeqStopsK Fence.wide q Tryz.prog 75 #[.pointer (some ⟨bS, 0, none⟩), .pointer (some ⟨bN, 0, none⟩)] (fun x : Nat => #[partV rw b.length x]) (KeepB [bS, bN]) (fun ys => ys = List.range ((b.length + 127) / 128)) (fun pre => pre.length ≤ (b.length + 127) / 128 ∧ pre = List.range pre.length) ((b.length + 127) / 128) w := by
  rcases hB.2 with ⟨hv, h0⟩ | ⟨g, cap, cur, hv, _, _, h1, _⟩
  · simp only [Value.slice.injEq] at hv
    obtain ⟨rfl, hbl, rfl⟩ := hv
    refine ⟨0, .inl rfl, (fun g e => by cases e), fun l J Jx W hW _ _ hY hJ0 => ?_⟩
    have hS' := (hW.cell (p := ⟨bS, 0, none⟩) hSl).trans hS
    rw [hbl] at hS'
    refine (chunk1_nil q l bS bN J W hS' hJ0).mono fun e W' ⟨he, hj⟩ => ⟨he, .inl ⟨[], ?_, hj⟩⟩
    rw [hbl]
    rfl
  · simp only [Value.slice.injEq] at hv
    obtain ⟨rfl, _, rfl⟩ := hv
    refine ⟨g, .inr rfl, (fun g' e => by cases e; rfl), fun l J Jx W hW hJ _ hY hJ0 => ?_⟩
    refine (chunk1_in q hq l bS bN g b.length c h1 hn J Jx hY W ((hW.cell (p := ⟨bS, 0, none⟩) hSl).trans hS) ((hW.cell (p := ⟨bN, 0, none⟩) hNl).trans hN) hJ0 hJ).mono ?_
    rintro e W' ⟨he, ⟨ys, rfl, hj⟩ | ⟨pre, h2, h3, hj⟩⟩
    · exact ⟨he, .inl ⟨_, rfl, hj⟩⟩
    · exact ⟨he, .inr ⟨_, ⟨h2, h3⟩, hj⟩⟩
end Go.Proofs.YtmpklljiddggpaaGreatDoor
