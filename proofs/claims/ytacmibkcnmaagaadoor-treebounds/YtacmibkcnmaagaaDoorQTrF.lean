/-
  The iterators over parts: inPlace and Parts. Conditions: each theorem's own premises.
-/
import Derived.Test.YtacmibkcnmaagaaDoorQTrE
import Derived.Stop.RegionWithIn
namespace Go.Proofs.YtacmibkcnmaagaaDoor
open Go.Shelf Go.RowKit Go.Lib
attribute [local go_sem] Oper.semAt_some

theorem inplace_mk (A : Option Addr) (n c : Nat) (w : World) : Calls Tryd.prog 36 #[.slice A n c] w fun e w' => e = .returned (.func (.func 84) #[] #[.pointer (some ⟨w.heap.size, 0, none⟩)]) ∧ w' = w.alloc (.cells #[.slice A n c] 32) := by
  go_enter Tryd.func36, Tryd.ntmps36
  go_wp2
  go_ret
  exact ⟨rfl, rfl⟩

set_option maxRecDepth 100000 in
set_option maxHeartbeats 1000000 in
/-- The parts come one by one, as they lie. -/
theorem inplace_el (q bS : Nat) (K C : Nat → Prop) (A : Option Addr) (c d : Nat) (l : List Ex) (w : World) (hd : depL l ≤ d) (hs1 : l.length ≤ 100000) (hs2 : slimL 100000 l = true) (hx : Xs w K A c l) (hK : ∀ b, K b → b < w.heap.size) (hKC : ∀ b, K b → ¬ C b) (hC : ∀ b, C b → b < w.heap.size) (hb : bS < w.heap.size) (hS : w.cell? ⟨bS, 0, none⟩ = some (.slice A l.length c)) :
    SeqOw Fence.wide q Tryd.prog 84 #[.pointer (some ⟨bS, 0, none⟩)] (fun x : Ex => #[x.val]) (KpC C) (fun x W => x.Lies W K ∧ x ∈ partsL l) (fun xs => xs = partsL l) (fun pre => pre <+: partsL l) (cntL l) w := by
  intro lp J Jx W hW hJ _ hY hJ0
  have hxW : Xs W K A c l := hx.keep (fun _ h => h) fun p hp => hW.cell (hK _ hp)
  have hSW : W.cell? ⟨bS, 0, none⟩ = some (.slice A l.length c) := (hW.cell (p := ⟨bS, 0, none⟩) hb).trans hS
  have HW := Lib.hid (wlk_any lp W.heap.size (cntL l) (partsL l) K C J Jx hJ hKC (fun b hb => Nat.lt_of_lt_of_le (hC b hb) hW.size) (fun pre x W1 h1 h2 h3 _ h4 => yield_mono (yield_any (hY pre x W1 h1 ⟨h2, h3⟩ h4)) fun e W' h => h.elim (fun h => .inl ⟨h.1, h.2.1, h.2.2.1⟩) (fun h => .inr ⟨h.1, h.2.1⟩)) d A c l [] W hd hs1 hs2 (fun _ h => h) hxW (Nat.le_refl _) hJ0 (by simp))
  obtain ⟨len, hlen⟩ : ∃ len, len = l.length := ⟨_, rfl⟩
  rw [← hlen] at HW hSW
  clear hx hK hKC hC hS hY hJ0 hxW hlen hs1 hs2 hJ
  refine callsIn_wide.2 ?_
  go_enter Tryd.func84, Tryd.ntmps84
  go_wp2_with fail
  refine HW.out.mono ?_
  rintro e W2 (⟨rfl, hJ2, -⟩ | ⟨rfl, p, hp, hJ2⟩)
  · have HR : Hid (J (partsL l) W2) := Lib.hid (by rw [List.nil_append] at hJ2; exact hJ2)
    clear hJ2
    go_wp2
    go_end0
    exact ⟨⟨_, rfl⟩, .inl ⟨_, rfl, HR.out⟩⟩
  · have HR : Hid (Jx p W2) := Lib.hid (by rw [List.nil_append] at hJ2; exact hJ2)
    have HP := Lib.hid hp
    clear hJ2 hp
    go_wp2
    go_end0
    exact ⟨⟨_, rfl⟩, .inr ⟨_, HP.out, HR.out⟩⟩

end Go.Proofs.YtacmibkcnmaagaaDoor
