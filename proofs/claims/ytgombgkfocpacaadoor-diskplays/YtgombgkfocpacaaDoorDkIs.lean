/-
  The walks of pendulumsee.Fault at a sentinel, and of Is. Conditions: each theorem's own premises.
-/
import Derived.Test.YtgombgkfocpacaaDoorDkSee2
namespace Go.Proofs.YtgombgkfocpacaaDoor
open Go.RowKit

set_option maxHeartbeats 1000000 in
set_option maxRecDepth 100000 in
theorem fault_bare (w : World) (ads : List Addr) (m : Nat) (a : Addr) (h : Sents w ads) (ha : ads[m]? = some a) :
    Calls Tryd.prog 45 #[.iface 122 (.pointer (some a))] w (RetB w (fault (101 + (m : Int)) false false 0 0)) := by
  have t1 := fun W => assert_err a W
  have hr0 : Blk (w.alloc (.cells #[.int .i64 0, .bool false, .bool false, .int .i64 0, .int .i64 0] 67)) w.heap.size 67 #[.int .i64 0, .bool false, .bool false, .int .i64 0, .int .i64 0] := heap_alloc_new w _
  have hB0 : Below w.heap.size w (w.alloc (.cells #[.int .i64 0, .bool false, .bool false, .int .i64 0, .int .i64 0] 67)) := (Below.refl _ _).alloc (Nat.le_refl _) _
  have H0 := Lib.hid (h.later hB0)
  have HA := Lib.hid ha
  clear h ha
  go_enter Tryd.func45, Tryd.ntmps45
  go_wp2_with fail
  refine (sentinel_any _ ads m a H0.out HA.out).mono ?_
  rintro e w1 ⟨rfl, hB1⟩
  have R1 := hr0.below hB1 hr0.lt
  have hBa := hB0.trans (hB1.mono hB0.size)
  clear hr0 hB0 hB1
  go_wp2_with fail
  refine (bare_any _ _).mono ?_
  rintro e w2 ⟨rfl, hB2⟩
  have R2 := R1.below hB2 R1.lt
  have hBb := hBa.trans (hB2.mono hBa.size)
  obtain ⟨⟨c0, c1, c2, c3, c4⟩, f0, f1, f2, f3, f4⟩ := blk5 R2
  have z2 := R2.lt
  have hF := ((((R2.set 0 (.int .i64 (101 + (m : Int)))).set 1 (.bool false)).set 2 (.bool false)).set 3 (.int .i64 0)).set 4 (.int .i64 0)
  have hBF : Below w.heap.size w (((((w2.setCell ⟨w.heap.size, 0, none⟩ (.int .i64 (101 + (m : Int)))).setCell ⟨w.heap.size, 1, none⟩ (.bool false)).setCell ⟨w.heap.size, 2, none⟩ (.bool false)).setCell ⟨w.heap.size, 3, none⟩ (.int .i64 0)).setCell ⟨w.heap.size, 4, none⟩ (.int .i64 0)) :=
    (((((hBb.setCell (Nat.le_refl _) _).setCell (Nat.le_refl _) _).setCell (Nat.le_refl _) _).setCell (Nat.le_refl _) _).setCell (Nat.le_refl _) _)
  have HF := Lib.hid hF
  have HBF := Lib.hid hBF
  clear R1 R2 hF hBF hBa hBb hB2
  go_wp2
  obtain ⟨⟨d0, d1, d2, d3, d4⟩, _⟩ := blk5 (v0 := .int .i64 (101 + (m : Int))) (v1 := .bool false) (v2 := .bool false) (v3 := .int .i64 0) (v4 := .int .i64 0) HF.out
  exact bodyPost_ret (v := fault (101 + (m : Int)) false false 0 0) (by simp [results, Tryd.results45, go_sem, d0, d1, d2, d3, d4]) rfl ⟨rfl, HBF.out⟩

set_option maxHeartbeats 1000000 in
set_option maxRecDepth 100000 in
theorem is_gen (w : World) (v : Value) (c : Int) (hF : ∀ W, Below w.heap.size w W → Calls Tryd.prog 45 #[v] W (RetB W (fault c false false 0 0))) :
    Calls Tryd.prog 12 #[v, .int .i64 c] w (RetB w (.bool true)) := by
  have HF := Lib.hid hF
  clear hF
  go_enter Tryd.func12, Tryd.ntmps12
  go_wp2_with fail
  refine (bare_any c _).mono ?_
  rintro e w1 ⟨rfl, hB1⟩
  go_wp2_with fail
  refine (same_fault w1 v c 0 false (fun W hW => HF.out W (hB1.trans (hW.mono hB1.size)))).mono ?_
  rintro e w2 ⟨rfl, hB2⟩
  have HB := Lib.hid (hB1.trans (hB2.mono hB1.size))
  clear hB1 hB2
  go_wp2
  go_ret
  exact ⟨rfl, HB.out⟩
/-- No error is 0. -/
theorem is_nil (w : World) : Calls Tryd.prog 12 #[.nilIface, .int .i64 0] w (RetB w (.bool true)) := is_gen w _ 0 fun W _ => fault_nil W
/-- A sentinel is its number. -/
theorem is_err (w : World) (ads : List Addr) (m : Nat) (a : Addr) (c : Int) (hc : c = 101 + (m : Int)) (h : Sents w ads) (ha : ads[m]? = some a) :
    Calls Tryd.prog 12 #[.iface 122 (.pointer (some a)), .int .i64 c] w (RetB w (.bool true)) := by
  subst hc
  exact is_gen w _ _ fun W hW => fault_bare W ads m a (h.later hW) ha
end Go.Proofs.YtgombgkfocpacaaDoor
