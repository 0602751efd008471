/-
  The iterators over parts: inPlace and Parts. Conditions: each theorem's own premises.
-/
import Derived.Test.YtndagbmcdpafjaaQTrE
import Derived.Stop.RegionWithIn
namespace Go.Proofs.Ytndagbmcdpafjaa
open Go.Shelf Go.RowKit Go.Lib
attribute [local go_sem] Oper.semAt_some

theorem inplace_mk (A : Option Addr) (n c : Nat) (w : World) : Calls Try.prog 22 #[.slice A n c] w fun e w' => e = .returned (.func (.func 31) #[] #[.pointer (some ⟨w.heap.size, 0, none⟩)]) ∧ w' = w.alloc (.cells #[.slice A n c] 22) := by
  go_enter Try.func22, Try.ntmps22
  go_wp2
  go_ret
  exact ⟨rfl, rfl⟩

set_option maxRecDepth 100000 in
set_option maxHeartbeats 1000000 in
/-- The parts come one by one, as they lie. -/
theorem inplace_el (q bS : Nat) (K C : Nat → Prop) (A : Option Addr) (c d : Nat) (l : List Ex) (w : World) (hd : depL l ≤ d) (hs1 : l.length ≤ 100000) (hs2 : slimL 100000 l = true) (hx : Xs w K A c l) (hK : ∀ b, K b → b < w.heap.size) (hKC : ∀ b, K b → ¬ C b) (hC : ∀ b, C b → b < w.heap.size) (hb : bS < w.heap.size) (hS : w.cell? ⟨bS, 0, none⟩ = some (.slice A l.length c)) :
    SeqOw Fence.wide q Try.prog 31 #[.pointer (some ⟨bS, 0, none⟩)] (fun x : Ex => #[x.val]) (KpC C) (fun x W => x.Lies W K ∧ x ∈ partsL l) (fun xs => xs = partsL l) (fun pre => pre <+: partsL l) (cntL l) w := by
  intro lp J Jx W hW hJ _ hY hJ0
  have hxW : Xs W K A c l := hx.keep (fun _ h => h) fun p hp => hW.cell (hK _ hp)
  have hSW : W.cell? ⟨bS, 0, none⟩ = some (.slice A l.length c) := (hW.cell (p := ⟨bS, 0, none⟩) hb).trans hS
  have HW := Lib.hid (wlk_any lp W.heap.size (cntL l) (partsL l) K C J Jx hJ hKC (fun b hb => Nat.lt_of_lt_of_le (hC b hb) hW.size) (fun pre x W1 h1 h2 h3 _ h4 => yield_mono (yield_any (hY pre x W1 h1 ⟨h2, h3⟩ h4)) fun e W' h => h.elim (fun h => .inl ⟨h.1, h.2.1, h.2.2.1⟩) (fun h => .inr ⟨h.1, h.2.1⟩)) d A c l [] W hd hs1 hs2 (fun _ h => h) hxW (Nat.le_refl _) hJ0 (by simp))
  obtain ⟨len, hlen⟩ : ∃ len, len = l.length := ⟨_, rfl⟩
  rw [← hlen] at HW hSW
  clear hx hK hKC hC hS hY hJ0 hxW hlen hs1 hs2 hJ
  refine callsIn_wide.2 ?_
  go_enter Try.func31, Try.ntmps31
  go_wp2_with fail
  refine HW.out.mono ?_
  rintro e W2 (⟨rfl, hJ2, -⟩ | ⟨rfl, p, hp, hJ2⟩)
  · have HR : Hid (J (partsL l) W2) := Lib.hid (by rw [List.nil_append] at hJ2; exact hJ2)
    clear hJ2
    go_wp2
    go_end0
    exact ⟨⟨_, rfl⟩, .inl ⟨_, rfl, HR.out⟩⟩
  · have HR : Hid (Jx p W2) := Lib.hid (by rw [List.nil_append] at hJ2; exact hJ2)
    have HP := Lib.hid hp
    clear hJ2 hp
    go_wp2
    go_end0
    exact ⟨⟨_, rfl⟩, .inr ⟨_, HP.out, HR.out⟩⟩

/-- What Parts leaves: an iterator over a copy. -/
def RetPt (w : World) (l : List Ex) (e : Ending) (w' : World) : Prop :=
  ∃ A c l' b, e = .returned (.func (.func 21) #[] #[.pointer (some ⟨b, 0, none⟩)]) ∧ w.heap.size ≤ b ∧ Blk w' b 22 #[.slice A l.length c] ∧ Xs w' (fun k => w.heap.size ≤ k ∧ k < b) A c l' ∧ erL l' = erL l ∧ Below w.heap.size w w'
set_option maxRecDepth 100000 in
theorem parts_mk (d : Nat) (A : Option Addr) (c : Nat) (l : List Ex) (B : Nat) (w : World) (hd : depL l ≤ d) (hs1 : l.length ≤ 100000) (hs2 : slimL 100000 l = true) (hx : Xs w (· < B) A c l) (hB : B ≤ w.heap.size) :
    Calls Try.prog 10 #[.slice A l.length c] w (RetPt w l) := by
  have HC := Lib.hid (clonexs_any d A c l B w hd hs1 hs2 hx hB)
  obtain ⟨len, hlen⟩ : ∃ len, len = l.length := ⟨_, rfl⟩
  rw [← hlen] at HC ⊢
  have HL := Lib.hid hlen
  clear hx hlen hs1 hs2 hd
  go_enter Try.func10, Try.ntmps10
  go_wp2_with fail
  refine HC.out.mono ?_
  rintro e w2 ⟨A2, c2, l2, rfl, hx2, he2, hB2⟩
  have HR : Hid (Blk (w2.alloc (.cells #[.slice A2 len c2] 22)) w2.heap.size 22 #[.slice A2 len c2] ∧ Xs (w2.alloc (.cells #[.slice A2 len c2] 22)) (fun k => w.heap.size ≤ k ∧ k < w2.heap.size) A2 c2 l2 ∧ Below w.heap.size w (w2.alloc (.cells #[.slice A2 len c2] 22)) ∧ w.heap.size ≤ w2.heap.size ∧ erL l2 = erL l) :=
    Lib.hid ⟨heap_alloc_new w2 _, hx2.keep (fun _ h => h) (fun p hp => World.cell?_alloc_lt _ _ _ hp.2), hB2.alloc hB2.size _, hB2.size, he2⟩
  rw [← HL.out]
  clear hx2 he2 hB2
  go_wp2
  go_ret
  obtain ⟨r1, r2, r3, r4, r5⟩ := HR.out
  exact ⟨A2, c2, l2, w2.heap.size, rfl, r4, by rw [← HL.out]; exact r1, r2, r5, r3⟩
end Go.Proofs.Ytndagbmcdpafjaa
