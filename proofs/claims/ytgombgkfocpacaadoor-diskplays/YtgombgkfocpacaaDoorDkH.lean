/-
  The walk of the laws' first examples. Conditions: none.
-/
import Derived.Test.YtgombgkfocpacaaDoorDkG
namespace Go.Proofs.YtgombgkfocpacaaDoor
open Go.RowKit Go.Maps

def RetT (w : World) (e : Ending) (w' : World) : Prop := e = .returned (.bool true) ∧ Below w.heap.size w w'
theorem below_fr {B : Nat} {S : List Nat} {a w w' : World} (h : Below B a w) (k : Fr S w w') (hB : B ≤ w.heap.size) (hS : ∀ x ∈ S, B ≤ x) : Below B a w' := h.trans (k.below hB hS)
theorem str_one (w : World) (u : UInt8) : Str (w.alloc (.cells #[.int .u8 (u.toNat : Int)] 5)) (w.heap.size + 1) (some ⟨w.heap.size, 0, none⟩) [u] := by
  refine ⟨fun _ => ⟨_, rfl, by simp, fun j v hv => ?_⟩⟩
  cases j with
  | zero =>
    simp at hv
    subst hv
    exact Blk.cell (heap_alloc_new w _) 0
  | succ j => simp at hv

set_option maxRecDepth 100000 in
set_option maxHeartbeats 400000 in
theorem first_any (w : World) : Calls Tryd.prog 9 #[] w (RetT w) := by
  go_enter Tryd.func9, Tryd.ntmps9
  go_wp2_with fail
  refine (new_ok 4 w (by omega) (by omega)).mono ?_
  rintro e w1 ⟨g, f, m, rfl, hg, hf, hm, hD1, hB1⟩
  have HD1 := Lib.hid hD1
  have HB1 := Lib.hid hB1
  clear hD1 hB1
  go_wp2_with fail
  have hF2 : Fr [] w1 (w1.alloc (.cells #[.int .u8 1] 5)) := (Fr.refl [] _).alloc _
  have hD2 := HD1.out.fr hF2 (by simp) (by simp) (by simp)
  have hgl := HD1.out.gl
  refine (write_ok g f m (newD 4) 0 (w1.heap.size + 1) (some ⟨w1.heap.size, 0, none⟩) 1 [1] _ hD2 rfl (by simp [newD]) (by simp) ?_ (by simp) (by intro ad e _; cases e; show w1.heap.size ≠ g; omega) (by simp [newD]) (by simp [newD])).mono ?_
  · exact str_one w1 1
  rintro e w3 ⟨rfl, hD3, hF3⟩
  have hB3 := below_fr (below_fr HB1.out hF2 HB1.out.size (by simp)) hF3 (by have := HB1.out.size; simp; omega) (by simp; omega)
  have HD3 := Lib.hid hD3
  have HB3 := Lib.hid hB3
  clear hD3 hB3 hF3 hD2 hF2
  go_wp2_with fail
  refine (crash_any g f m _ 0 none 0 0 [] w3 HD3.out Ints.nil rfl (Nat.zero_le _) (by simp)).mono ?_
  rintro e w4 ⟨rfl, m4, hm4, hD4, hF4⟩
  have hB4 := below_fr HB3.out hF4 HB3.out.size (by simp; omega)
  have HD4 := Lib.hid hD4
  have HB4 := Lib.hid hB4
  clear hD4 hB4 hF4
  go_wp2_with fail
  refine (read_ok g f m4 _ 0 w4 HD4.out rfl (by simp [crashD, crashK_length, newD])).mono ?_
  rintro e w5 ⟨hB5, he⟩
  obtain rfl : e = .returned (.tuple #[.slice none 0 0, .bool false, .nilIface]) := he
  have HB5 := Lib.hid (HB4.out.trans (hB5.mono HB4.out.size))
  clear hB5
  go_wp2
  go_ret
  exact ⟨rfl, HB5.out⟩
end Go.Proofs.YtgombgkfocpacaaDoor
