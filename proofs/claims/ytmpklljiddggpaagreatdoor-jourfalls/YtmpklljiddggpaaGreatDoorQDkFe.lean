/-
  The walk of the disk's Flush without power. Conditions: each theorem's own premises.
-/
import Derived.Test.YtmpklljiddggpaaGreatDoorQDkC
namespace Go.Proofs.YtmpklljiddggpaaGreatDoor
open Go.RowKit Go.Maps

set_option maxRecDepth 100000 in
set_option maxHeartbeats 400000 in
theorem flush_err (g f m : Nat) (s : DS) (w : World) (aR aC aF aM : Addr) (hD : Dk w g f m s) (hE : Es w aR aC aF aM) (hlow : 1 < g ∧ 3 < g ∧ 2 < g ∧ 0 < g)
    (ha : -9223372036854775808 ≤ s.armed ∧ s.armed ≤ 9223372036854775807) (hno : powN s.armed s.down = true) :
    Calls Tryz.prog 53 #[.pointer (some ⟨g, 0, none⟩)] w (RetE aC g f m s w) := by
  obtain ⟨k, hH, hk1, hk2⟩ := hD.head
  have HD := Lib.hid hD
  have HH := Lib.hid hH
  have HA := Lib.hid ha
  have HE := Lib.hid hE
  have HN := Lib.hid hno
  clear hD hH ha hE hno
  go_enter Tryz.func53, Tryz.ntmps53
  go_wp2_with fail
  refine (powered_head g f m _ k _ _ _ w HH.out HA.out).mono ?_
  rintro e w1 ⟨rfl, hH1, hF1⟩
  have hE1 := HE.out.fr hF1 (by simp; omega)
  obtain ⟨eR, eC, eF, eM⟩ := hE1
  have hfin := HD.out.fused hF1 hH1 hk1 hk2
  have HF1 := Lib.hid hF1
  have HFin := Lib.hid hfin
  rw [HN.out]
  clear hH1 hF1 hfin eR eF eM
  go_wp2
  go_ret
  exact ⟨rfl, HFin.out, HF1.out⟩
end Go.Proofs.YtmpklljiddggpaaGreatDoor
