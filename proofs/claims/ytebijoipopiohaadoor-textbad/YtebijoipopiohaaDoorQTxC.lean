/-
  The walk of Runes and of what it hands back: the contract of the iterator. Conditions: each theorem's own premises.
-/
import Derived.Test.YtebijoipopiohaaDoorQTxB
import Derived.Lib.OthersKept
import Derived.RangeFuncNested
import Derived.RangeFuncBound
import Derived.RangeFuncCalls
import Derived.RangeFuncLeaves
import Derived.RangeFuncBox
import Derived.Shelf.Abstract
import Derived.Shelf.RegionOpen
import Derived.OwnWalkIn
import Derived.TacticsInMore
import Derived.LoopNIn
import Derived.LoopIn
namespace Go.Proofs.YtebijoipopiohaaDoor
open Go.Shelf Go.RowKit Go.Lib
attribute [local go_sem] Oper.semAt_some

theorem runes_mk (s : ByteArray) (w : World) : Calls Tryd.prog 17 #[.string s] w fun e w' => e = .returned (.func (.func 25) #[] #[.pointer (some ⟨w.heap.size, 0, none⟩)]) ∧ w' = w.alloc (.cells #[.string s] 9) := by
  go_enter Tryd.func17, Tryd.ntmps17
  go_wp2
  go_ret
  exact ⟨rfl, rfl⟩

/-- A place and a rune, as values. -/
def runV (x : Nat × Nat) : Array Value := #[.int .i64 (x.1 : Int), .int .i32 (x.2 : Int)]

theorem nums_snoc : ∀ (i : Nat) (l : List (Nat × Nat)) (p : Nat × Nat), nums i (l ++ [p]) = nums i l ++ [(i + l.length, p.1)]
  | i, [], p => by simp [nums]
  | i, q :: t, p => by
    have := nums_snoc (i + 1) t p
    simp [nums, this]
    omega
/-- What has come, and what is still to come. -/
structure At (s : ByteArray) (pre : List (Nat × Nat)) (k : Nat) : Prop where
  all : ∃ a, pcs s.data.toList = a ++ pcs (s.data.toList.drop k) ∧ pre = nums 0 a
theorem At.start (s : ByteArray) : At s [] 0 := ⟨[], by simp, rfl⟩
theorem At.step {s : ByteArray} {pre : List (Nat × Nat)} {k : Nat} (h : At s pre k) (hk : k < s.size) : At s (pre ++ [(pre.length, (Utf8.decode s k).1)]) (k + (Utf8.decode s k).2) := by
  obtain ⟨a, h1, h2⟩ := h.all
  rw [pcs_drop _ k (by simpa using hk), ← decode_dec] at h1
  refine ⟨a ++ [Utf8.decode s k], by simp [h1], ?_⟩
  rw [nums_snoc, h2, nums_length, Nat.zero_add]
theorem At.lt {s : ByteArray} {pre : List (Nat × Nat)} {k : Nat} (h : At s pre k) (hk : k < s.size) : pre.length < (runs s.data.toList).length := by
  obtain ⟨a, h1, h2⟩ := h.all
  rw [pcs_drop _ k (by simpa using hk)] at h1
  rw [runs_length, h1, h2, nums_length]
  simp
theorem At.done {s : ByteArray} {pre : List (Nat × Nat)} {k : Nat} (h : At s pre k) (hk : ¬ k < s.size) : pre = runs s.data.toList := by
  obtain ⟨a, h1, h2⟩ := h.all
  rw [pcs_end _ k (by simpa using hk)] at h1
  rw [runs, h1, h2]
  simp
theorem nums_append : ∀ (i : Nat) (a b : List (Nat × Nat)), nums i (a ++ b) = nums i a ++ nums (i + a.length) b
  | i, [], b => by simp [nums]
  | i, q :: t, b => by
    have := nums_append (i + 1) t b
    simp [nums, this]
    congr 1
    omega
theorem At.pre {s : ByteArray} {pre : List (Nat × Nat)} {k : Nat} (h : At s pre k) : pre <+: runs s.data.toList := by
  obtain ⟨a, h1, h2⟩ := h.all
  exact ⟨nums (0 + a.length) (pcs (s.data.toList.drop k)), by rw [runs, h1, nums_append, h2]⟩
theorem abides_iter {J : List (Nat × Nat) → World → Prop} {B : Nat} (h : AbidesFrom B J) {pre : List (Nat × Nat)} {W : World} {k : Nat} {s : ByteArray} {pos : Nat} (pos' : Nat) (hk : W.heap[k]? = some (.stringIter s pos)) (hB : B ≤ k) (hJ : J pre W) : J pre (W.iterAt k s pos') :=
  h pre W _ (some k) hJ ⟨rfl, rfl, rfl, by rw [Lib.iterAt_size]; exact Nat.le_refl _, fun i _ hi => Lib.iterAt_other W k i s pos' (fun e => hi (by rw [e]))⟩ (fun r e => by cases e; exact ⟨hB, _, hk, rfl⟩)

set_option maxRecDepth 100000 in
set_option maxHeartbeats 2000000 in
theorem runes1_in (q : Nat) (hq : 1 ≤ q) (l bS : Nat) (s : ByteArray) (hs : s.size ≤ 4611686018427387904) (J Jx : List (Nat × Nat) → World → Prop)
    (hY : ∀ pre x W, J pre W → pre.length < (runs s.data.toList).length → YieldAt Fence.wide (q - 1) Tryd.prog l (runV x) W fun e W' =>
      (e = .returned (.bool true) ∧ J (pre ++ [x]) W' ∧ KeepsWalks W W') ∨ (e = .returned (.bool false) ∧ Jx (pre ++ [x]) W'))
    (W : World) (hS : W.cell? ⟨bS, 0, none⟩ = some (.string s)) (h0 : J [] W) (hd : AbidesFrom W.heap.size J) :
    CallsIn Fence.wide q Tryd.prog 25 #[.func (.yield l) #[] #[], .pointer (some ⟨bS, 0, none⟩)] W fun e W' => (∃ v, e = .returned v) ∧ ((∃ ys, ys = runs s.data.toList ∧ J ys W') ∨ (∃ pre, pre <+: runs s.data.toList ∧ Jx pre W')) := by
  refine callsIn_of_wp Tryd.func25 rfl trivial ?_ rfl
  simp only [Tryd.ntmps25, List.size_toArray, List.length_cons, List.length_nil, Nat.reduceAdd, Nat.reduceSub, Array.replicate_succ, Array.replicate_zero, List.push_toArray, List.append_toArray, List.nil_append, List.cons_append]
  have HJ0 := Lib.hid (hd [] W (W.iter s 0) none h0 (World.grownBy_alloc _ _ _) (fun r e => by cases e))
  have HI0 := Lib.hid (World.iter_heap W s 0)
  gi_wp2
  gi_loopw [3] (fun i wr => ∃ (k : Nat) (pre : List (Nat × Nat)), k ≤ s.size ∧ At s pre k ∧ i = .int .i64 (pre.length : Int) ∧ wr.heap[W.heap.size]? = some (.stringIter s k) ∧ J pre wr)
    (fun _ wr => s.size - wr.iterPos W.heap.size)
  case atStart => exact ⟨0, [], Nat.zero_le _, At.start s, rfl, HI0.out, HJ0.out⟩
  case round =>
    obtain ⟨k, pre, hk, hA, rfl, hit, hJ⟩ := hrel
    have HP := Lib.hid (iterPos_of hit)
    have HA := Lib.hid hA
    by_cases hp : k < s.size
    · have hlen := hA.lt hp
      have hps := hA.pre.length_le
      have hnx : ∀ ty, (Instr.next (.pointer (some ⟨W.heap.size, 0, none⟩)) true ty).run Tryd.prog wr = _ := fun ty => Lib.run_next_any_at wr W.heap.size s k ty hit hp
      have hJ2 := abides_iter hd (k + (Utf8.decode s k).2) hit (Nat.le_refl _) hJ
      have hit2 := Lib.iterAt_heap wr W.heap.size s k (k + (Utf8.decode s k).2) hit
      have HA2 := Lib.hid (hA.step hp)
      have hwd := dec_pos (s.data.toList.drop k)
      have hwl := dec_le (s.data.toList.drop k) (by intro e; have := congrArg List.length e; simp at this; omega)
      rw [← decode_dec] at hwd hwl
      have hk2 : k + (Utf8.decode s k).2 ≤ s.size := by simp at hwl; omega
      obtain ⟨W1, hW1⟩ : ∃ W1, W1 = wr.iterAt W.heap.size s (k + (Utf8.decode s k).2) := ⟨_, rfl⟩
      rw [← hW1] at hnx hJ2 hit2
      obtain ⟨fn, tmps, assign, body, hy, hR⟩ := hY pre (pre.length, (Utf8.decode s k).1) W1 hJ2 hlen
      dsimp only [runV] at hy
      have hpl : pre.length ≤ 4611686018427387904 := by
        have := runs_length s.data.toList
        have := pcs_len s.data.toList
        simp at this
        omega
      clear hA hJ hit hW1 hY hd HJ0 HI0 h0
      gi_wp2
      refine hR.mono ?_
      rintro e2 W3 (⟨rfl, hJ3, hk3⟩ | ⟨rfl, hJx3⟩)
      · have HI3 := Lib.hid (hk3.same _ _ hit2 rfl)
        gi_wp2
        go_roundw
        case rel => exact ⟨_, _, hk2, HA2.out, by simp, HI3.out, hJ3⟩
        case measure =>
          rw [iterPos_of HI3.out, HP.out]
          omega
      · gi_wp2
        refine bodyPost_ret (results_none rfl _ _ _) rfl ?_
        exact ⟨⟨_, rfl⟩, .inr ⟨_, HA2.out.pre, hJx3⟩⟩
    · have hnx : ∀ ty, (Instr.next (.pointer (some ⟨W.heap.size, 0, none⟩)) true ty).run Tryd.prog wr = _ := fun ty => Lib.run_next_end_at wr W.heap.size s k ty hit hp
      have HD := Lib.hid (hA.done hp)
      clear hA
      gi_wp2
      go_end0
      exact ⟨⟨_, rfl⟩, .inl ⟨_, HD.out, hJ⟩⟩

/-- The places and runes come one by one. -/
theorem runes_stops (q : Nat) (hq : 1 ≤ q) (bS : Nat) (s : ByteArray) (hs : s.size ≤ 4611686018427387904) (w : World) (hSl : bS < w.heap.size) (hS : w.cell? ⟨bS, 0, none⟩ = some (.string s)) :
    SeqStopsK Fence.wide q Tryd.prog 25 #[.pointer (some ⟨bS, 0, none⟩)] runV KeepsWalks (fun ys => ys = runs s.data.toList) (fun pre => pre <+: runs s.data.toList) (runs s.data.toList).length w :=
  fun l J Jx W hW hJ _ hY hJ0 => runes1_in q hq l bS s hs J Jx hY W ((hW.cell (p := ⟨bS, 0, none⟩) hSl).trans hS) hJ0 hJ
end Go.Proofs.YtebijoipopiohaaDoor
