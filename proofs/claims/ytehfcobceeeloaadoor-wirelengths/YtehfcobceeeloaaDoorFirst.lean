/-
  The walk of the statements' own look at the chapter's two examples. Conditions: none.
-/
import Derived.Test.YtehfcobceeeloaaDoorRef
namespace Go.Proofs.YtehfcobceeeloaaDoor
open Go.RowKit

theorem enc_m1 : [] ++ enc (-1) = [1] := by decide +kernel
theorem enc_64 : [] ++ enc 64 = [128, 1] := by decide +kernel
/-- It is true, and nothing old is turned. -/
def RetYes (w : World) (e : Ending) (w' : World) : Prop := e = .returned (.bool true) ∧ Below w.heap.size w w'

theorem str_new1 (w : World) (u : UInt8) : Str (w.alloc (.cells #[.int .u8 (u.toNat : Int)] 5)) (w.heap.size + 1) (some ⟨w.heap.size, 0, none⟩) [u] :=
  ⟨fun _ => ⟨_, rfl, by simp, fun j v hj => by
    match j, hj with
    | 0, hj => simp at hj; subst hj; simp [Addr.add]⟩⟩
theorem str_new2 (w : World) (u v : UInt8) : Str (w.alloc (.cells #[.int .u8 (u.toNat : Int), .int .u8 (v.toNat : Int)] 5)) (w.heap.size + 1) (some ⟨w.heap.size, 0, none⟩) [u, v] :=
  ⟨fun _ => ⟨_, rfl, by simp, fun j x hj => by
    match j, hj with
    | 0, hj => simp at hj; subst hj; simp [Addr.add]
    | 1, hj => simp at hj; subst hj; simp [Addr.add]⟩⟩
theorem Str.alloc {w : World} {B : Nat} {A : Option Addr} {l : List UInt8} (h : Str w B A l) (hB : B ≤ w.heap.size) (o : Obj) : Str (w.alloc o) B A l := h.keep fun p hp => World.cell?_alloc_lt w o p (by omega)

set_option maxRecDepth 100000 in
set_option maxHeartbeats 1000000 in
theorem first_any (w : World) : Calls Tryd.prog 9 #[] w (RetYes w) := by
  have HP := Lib.hid (fun W => put_any none 0 0 [] (-1) W rfl (by omega) Str.nil (by omega) (by omega))
  have HQ := Lib.hid (fun W => put_any none 0 0 [] 64 W rfl (by omega) Str.nil (by omega) (by omega))
  rw [enc_m1] at HP
  rw [enc_64] at HQ
  go_enter Tryd.func9, Tryd.ntmps9
  go_wp2_with fail
  refine (HP.out _).mono ?_
  rintro e w1 ⟨A1, n1, c1, rfl, HN1, ho, hB⟩
  have hn1 : n1 ≤ 1 := by have := HN1.out; simp at this; omega
  go_wp2_with fail
  refine (same_any A1 _ n1 1 c1 1 [1] [1] _ w1.heap.size (w1.heap.size + 1) HN1.out rfl (by omega) (ho.str.alloc (Nat.le_refl _) _) (str_new1 w1 1)).mono ?_
  rintro e w2 ⟨rfl, m, rfl⟩
  rw [show sameB [1] [1] = true from by decide]
  have hB1 : Below w.heap.size w ((w1.alloc (.cells #[.int .u8 ((1 : UInt8).toNat : Int)] 5)).drewN m) := ⟨hB.os, hB.tape, hB.output, (hB.alloc hB.size _).size, (hB.alloc hB.size _).block⟩
  go_wp2_with fail
  refine (HQ.out _).mono ?_
  rintro e w3 ⟨A3, n3, c3, rfl, HN3, ho3, hB3⟩
  have hn3 : n3 ≤ 2 := by have := HN3.out; simp at this; omega
  have hB4 : Below w.heap.size w w3 := hB1.trans (hB3.mono hB1.size)
  clear hB3 hB1 HP HQ ho HN1
  go_wp2_with fail
  refine (same_any A3 _ n3 2 c3 2 [128, 1] [128, 1] _ w3.heap.size (w3.heap.size + 1) HN3.out rfl (by omega) (ho3.str.alloc (Nat.le_refl _) _) (str_new2 w3 128 1)).mono ?_
  rintro e w5 ⟨rfl, m5, rfl⟩
  rw [show sameB [128, 1] [128, 1] = true from by decide]
  go_wp2
  go_ret
  exact ⟨rfl, hB4.os, hB4.tape, hB4.output, (hB4.alloc hB4.size _).size, (hB4.alloc hB4.size (.cells #[.int .u8 128, .int .u8 1] 5)).block⟩
end Go.Proofs.YtehfcobceeeloaaDoor
