/-
  A text's builder within a block of the program's own type: the walks of strings.Builder's copyCheck, WriteString and String, and of the printer's put. Conditions: each theorem's own premises.
-/
import Derived.Test.YtpfehddkaapjiaaDoorQTxR
import Derived.Shelf.Strings.BuilderK
namespace Go.Proofs.YtpfehddkaapjiaaDoor
open Go.RowKit Go.Lib Go.Shelf
attribute [local go_sem] Oper.semAt_some

/-- A printer in a block of the call's own, in which these bytes stand. -/
def PrA (b : Nat) (l : List UInt8) (w : World) : Prop := IsBuilderF 101 5 b b (byteCells l) w
/-- The same, written. -/
def PrU (b : Nat) (l : List UInt8) (w : World) : Prop := BuilderAtF 101 5 b b (.pointer (some ⟨b, 0, none⟩)) (byteCells l) w
/-- What a call leaves that writes. -/
structure Wr (b : Nat) (l : List UInt8) (w w' : World) : Prop where
  pr : PrA b l w'
  bel : Below b w w'
  oth : OthersKept 5 (some b) w w'
theorem Wr.trans {b : Nat} {l l' : List UInt8} {w w' w2 : World} (h : Wr b l w w') (k : Wr b l' w' w2) : Wr b l' w w2 := ⟨k.pr, h.bel.trans k.bel, h.oth.trans k.oth⟩
theorem PrA.lt {b : Nat} {l : List UInt8} {w : World} (h : PrA b l w) : b < w.heap.size := by
  rcases h with h | h
  · exact h.lt
  · exact h.lt
theorem PrA.refl {b : Nat} {l : List UInt8} {w : World} (h : PrA b l w) : Wr b l w w := ⟨h, Below.refl _ _, OthersKept.refl _ _ _⟩
theorem PrA.alloc {b : Nat} {l : List UInt8} {w : World} (h : PrA b l w) (o : Obj) : PrA b l (w.alloc o) := by
  rcases h with h | h
  · exact .inl (h.alloc o)
  · exact .inr (h.alloc o)
theorem PrA.drew {b : Nat} {l : List UInt8} {w : World} (h : PrA b l w) : PrA b l w.drew := h
theorem PrA.drewN {b : Nat} {l : List UInt8} {w : World} (h : PrA b l w) (n : Nat) : PrA b l (w.drewN n) := h
theorem Wr.ofAlloc {b : Nat} {l : List UInt8} {w : World} (h : PrA b l w) (o : Obj) : Wr b l w (w.alloc o) := ⟨h.alloc o, (Below.refl _ _).alloc (Nat.le_of_lt h.lt) _, (OthersKept.refl _ _ _).alloc o⟩
/-- A block of another kind stays. -/
theorem Wr.blk {b k : Nat} {l : List UInt8} {w w' : World} (h : Wr b l w w') {cs : Array Value} {t : TypeId} (hk : Blk w k t cs) (hb : k ≠ b) (ht : t ≠ 5) : Blk w' k t cs :=
  h.oth k _ hk (fun e => hb (Option.some.inj e)) fun c fz e => by
    cases e
    exact ht rfl
theorem PrA.shape {b : Nat} {l : List UInt8} {w : World} (h : PrA b l w) : w.shape? b = some (101, 2) := by
  rcases h with h | h <;> exact h.shape
theorem PrA.ne {b k : Nat} {l : List UInt8} {w : World} (h : PrA b l w) {cs : Array Value} {t : TypeId} (hk : Blk w k t cs) (ht : t ≠ 101) : k ≠ b := by
  rintro rfl
  have := h.shape
  unfold Blk at hk
  simp [World.shape?, hk] at this
  exact ht this.1
theorem builder_size : (Tryd.prog.info? 99).map (·.size) = some 2 := by kernel_rfl
theorem printer_lies : liesAt Tryd.prog Tryd.prog.depth 101 (2 / Tryd.prog.cellsOf 101) 0 99 1 = true := by kernel_rfl

set_option maxHeartbeats 1000000 in
set_option maxRecDepth 100000 in
theorem copyCheck_used (b : Nat) (w : World) (h0 : w.cell? ⟨b, 0, none⟩ = some (.pointer (some ⟨b, 0, none⟩))) :
    Calls Tryd.prog 156 #[.pointer (some ⟨b, 0, none⟩)] w fun e w' => e = .returned (.tuple #[]) ∧ w' = w := by
  obtain ⟨j, hj, _⟩ := Option.map_eq_some_iff.1 builder_size
  go_enter Tryd.func156, Tryd.ntmps156
  go_wp2
  rw [Lib.run_neq_ptr_same w _ Tryd.underlying96 hj]
  go_wp2
  go_end0
  exact ⟨rfl, rfl⟩
set_option maxHeartbeats 1000000 in
set_option maxRecDepth 100000 in
theorem copyCheck_fresh (b : Nat) (w : World) (h0 : w.cell? ⟨b, 0, none⟩ = some (.pointer none)) (hsh : w.shape? b = some (101, 2)) (hfz : w.frozen? ⟨b, 0, none⟩ = false) :
    Calls Tryd.prog 156 #[.pointer (some ⟨b, 0, none⟩)] w fun e w' => e = .returned (.tuple #[]) ∧ w' = w.setCell ⟨b, 0, none⟩ (.pointer (some ⟨b, 0, none⟩)) := by
  obtain ⟨j, hj, hjs⟩ := Option.map_eq_some_iff.1 builder_size
  go_enter Tryd.func156, Tryd.ntmps156
  go_wp2
  rw [Lib.run_to_unsafe w ⟨b, 0, none⟩ Tryd.underlying96 Tryd.underlying187 hj (by rw [hjs]; decide) hsh (Nat.zero_lt_succ 1)]
  simp only [Result.andThen]
  rw [Oper.upon_value]
  go_wp2
  rw [run_callFunc_extern Tryd.func164 (by kernel_rfl) (by kernel_rfl) (by kernel_rfl) (e := Extern.AbiNoEscape.same) (by kernel_rfl)]
  rw [Lib.run_noEscape]
  simp only [Result.andThen]
  rw [Oper.upon_value]
  go_wp2
  rw [Lib.run_from_unsafe w ⟨b, 0, none⟩ Tryd.underlying187 Tryd.underlying96 hj hsh printer_lies]
  simp only [Result.andThen]
  rw [Oper.upon_value]
  go_wp2
  go_end0
  exact ⟨rfl, rfl⟩
theorem copyCheck_any (b : Nat) (l : List UInt8) (w : World) (h : PrA b l w) :
    Calls Tryd.prog 156 #[.pointer (some ⟨b, 0, none⟩)] w fun e w' => e = .returned (.tuple #[]) ∧ PrU b l w' ∧ Below b w w' ∧ OthersKept 5 (some b) w w' := by
  rcases h with h | h
  · refine (copyCheck_fresh b w h.cell0 h.shape h.frozen0).mono ?_
    rintro e w' ⟨rfl, rfl⟩
    exact ⟨rfl, h.used _, (Below.refl b w).setCell (p := ⟨b, 0, none⟩) h.1 _, (OthersKept.refl _ _ w).setCell ⟨b, 0, none⟩ rfl _⟩
  · refine (copyCheck_used b w h.cell0).mono ?_
    rintro e w' ⟨rfl, rfl⟩
    exact ⟨rfl, h, Below.refl b _, OthersKept.refl _ _ _⟩
theorem strCells_list (s : List UInt8) : strCells ⟨s.toArray⟩ = byteCells s := by
  simp [strCells, byteCells]
set_option maxHeartbeats 2000000 in
set_option maxRecDepth 100000 in
theorem writeString_any (b : Nat) (l s : List UInt8) (w : World) (h : PrA b l w) (hlen : l.length + s.length ≤ 140737488355328) :
    Calls Tryd.prog 141 #[.pointer (some ⟨b, 0, none⟩), .string ⟨s.toArray⟩] w fun e w' => e = .returned (.tuple #[.int .i64 (s.length : Int), .nilIface]) ∧ Wr b (l ++ s) w w' := by
  obtain ⟨i0, hi, hz0, hz1, hz2⟩ := info_parts Tryd.info8
  have hBw := h.lt
  obtain ⟨X, hX⟩ : ∃ X : ByteArray, X = ⟨s.toArray⟩ := ⟨_, rfl⟩
  have hXs : X.size = s.length := by rw [hX]; rfl
  have hXc : strCells X = byteCells s := by rw [hX]; exact strCells_list s
  rw [← hX]
  clear hX
  go_enter Tryd.func141, Tryd.ntmps141
  go_wp2_with (go_at_call 156; refine (copyCheck_any b l _ h).mono ?_)
  rintro e w1 ⟨rfl, h1, hb1, hk1⟩
  obtain ⟨hB, v, hbk, hown, hne⟩ := h1
  have c0 : w1.cell? ⟨b, 0, none⟩ = some (.pointer (some ⟨b, 0, none⟩)) := by rw [Lib.cell_of_heap hbk]; rfl
  have c1 : w1.cell? ⟨b, 1, none⟩ = some v := by rw [Lib.cell_of_heap hbk]; rfl
  go_wp2_with (at_builtin; refine Lib.wpList_append_own_stringF _ rfl _ _ 97 9 rfl b 5 i0 Tryd.underlying97 Tryd.underlying9 hi hz0 hz1 hz2 _ _ _ rfl hown X rfl ?c3 ?c4 ?c5 ?_)
  case c3 => unfold maxLen; rw [byteCells_length]; omega
  case c4 => rw [byteCells_length]; omega
  case c5 => have := hb1.size; omega
  intro v' w2 hown' hgrow _
  have hlt : b < w1.heap.size := by
    rcases Nat.lt_or_ge b w1.heap.size with h' | h'
    · exact h'
    · simp [Array.getElem?_eq_none h'] at hbk
  have hb2 : w2.heap[b]? = some (.cells #[.pointer (some ⟨b, 0, none⟩), v] 101 (0, 0)) := by
    rw [hgrow.block b hlt (fun e => hne e.symm)]
    exact hbk
  have d0 : w2.cell? ⟨b, 0, none⟩ = some (.pointer (some ⟨b, 0, none⟩)) := by rw [Lib.cell_of_heap hb2]; rfl
  have d1 : w2.cell? ⟨b, 1, none⟩ = some v := by rw [Lib.cell_of_heap hb2]; rfl
  have f1 : w2.frozen? ⟨b, 1, none⟩ = false := Lib.frozen_of_heap hb2 1
  obtain ⟨ao, n', cap, rfl⟩ : ∃ ao n' cap, v' = .slice ao n' cap := by
    rcases hown'.2 with ⟨hv, _⟩ | ⟨g, cap, cur, fz, hv, _⟩
    · exact ⟨_, _, _, hv⟩
    · exact ⟨_, _, _, hv⟩
  rw [byteCells_length] at hown'
  go_wp2
  go_ret2
  have hPU : PrU b (l ++ s) (w2.setCell ⟨b, 1, none⟩ (.slice ao n' cap)) := by
    unfold PrU
    rw [show byteCells (l ++ s) = byteCells l ++ byteCells s by simp [byteCells]]
    refine Lib.BuilderAtF.put (T := 101) (e := 5) hB hb2 (bs' := byteCells l ++ byteCells s) ?_ (by decide)
    rw [List.length_append, byteCells_length, byteCells_length]
    exact hown'
  refine ⟨rfl, .inr hPU, ?_, (hk1.grown hgrow (Lib.ownsRowF_kind hown)).setCell ⟨b, 1, none⟩ rfl _⟩
  exact (hb1.grown hgrow (by have := hb1.size; omega) (fun k hk => (hown.lt k hk).1)).setCell (p := ⟨b, 1, none⟩) hB _
set_option maxHeartbeats 2000000 in
set_option maxRecDepth 100000 in
theorem string_any (b : Nat) (l : List UInt8) (w : World) (h : PrA b l w) (h0 : l ≠ []) :
    Calls Tryd.prog 67 #[.pointer (some ⟨b, 0, none⟩)] w fun e w' => e = .returned (.string ⟨l.toArray⟩) ∧ Below b w w' := by
  obtain ⟨p, hAt⟩ : ∃ p, BuilderAtF 101 5 b b p (byteCells l) w := by
    rcases h with h | h
    · exact ⟨_, h⟩
    · exact ⟨_, h⟩
  obtain ⟨hB, v, hbk, hown, hne⟩ := hAt
  have hl0 : l.length ≠ 0 := by simpa using h0
  rw [Lib.byteCells_length] at hown
  obtain ⟨g, cap, cur, fz, rfl, hbg, hg, hfz, hnc, hcm, hcs, htake⟩ : ∃ g cap cur fz, v = .slice (some ⟨g, 0, none⟩) l.length cap ∧ b ≤ g ∧ w.heap[g]? = some (.cells cur 5 fz) ∧ fz.2 ≤ l.length * 1 ∧ l.length ≤ cap ∧ cap ≤ maxLen ∧ cur.size = cap * 1 ∧ cur.toList.take (l.length * 1) = Lib.byteCells l := by
    rcases hown.2 with ⟨_, hz⟩ | ⟨g, cap, cur, fz, hv, r⟩
    · exact absurd hz hl0
    · exact ⟨g, cap, cur, fz, hv, r⟩
  have c1 : w.drew.cell? ⟨b, 1, none⟩ = some (.slice (some ⟨g, 0, none⟩) l.length cap) := by
    have : w.drew.heap[b]? = some (.cells #[p, .slice (some ⟨g, 0, none⟩) l.length cap] 101 (0, 0)) := hbk
    rw [Lib.cell_of_heap this]; rfl
  have hSD : (Builtin.unsafeSliceData_ #[97] 137 #[.slice (some ⟨g, 0, none⟩) l.length cap]).run Tryd.prog w.drew = .ok (.pointer (some ⟨g, 0, none⟩)) w.drew :=
    Lib.run_unsafeSliceData_row _ _ _ _ _ _ (by omega)
  have hUS : (Builtin.unsafeString_ #[137, 3] 9 #[.pointer (some ⟨g, 0, none⟩), .int .i64 l.length]).run Tryd.prog w.drew = .ok (.string ⟨l.toArray⟩) (w.drew.freeze ⟨g, 0, none⟩ l.length) := by
    refine Lib.run_unsafeString_row w.drew 137 3 9 5 Tryd.underlying137 (by kernel_rfl) g cur.size (by have hg' : w.drew.heap[g]? = some (.cells cur 5 fz) := hg; simp [World.shape?, hg']) l h0 (by omega) (by unfold maxLen at hcm; omega) ?_
    intro j x hx
    have := hown.cells (g := g) rfl j (.int .u8 x.toNat) (by simp [Lib.byteCells, hx])
    exact this
  have mixed : Tryd.prog.follows .mixedOrders = true := by kernel_rfl
  clear h hfz hnc hcm hcs htake
  go_enter Tryd.func67, Tryd.ntmps67
  go_wp2
  go_region_o
  all_goals (go_wp2; go_ret; exact ⟨rfl, Lib.below_freeze (Below.drew (Below.refl b w)) (p := ⟨g, 0, none⟩) hbg _⟩)
end Go.Proofs.YtpfehddkaapjiaaDoor
