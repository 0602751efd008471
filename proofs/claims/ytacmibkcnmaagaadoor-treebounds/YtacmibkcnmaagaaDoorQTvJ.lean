/-
  The walk of tree's variables. Conditions: the theorem's own premises.
-/
import Derived.Test.YtacmibkcnmaagaaDoorQTvH
namespace Go.Proofs.YtacmibkcnmaagaaDoor
open Go.RowKit Go.Lib Go.Sort Go.Shelf
attribute [local go_sem] Oper.semAt_some

theorem Sl.rwB {α : Type} {L : Lie α} {W : World} {B : Nat} {A : Option Addr} {c : Nat} {l : List α} (h : Sl L W (· < B) A c l) : Rw L W B A l := ⟨fun hl => by
  obtain ⟨b, o, e, hb⟩ := h.hd.at_ (by simpa using hl)
  subst e
  exact ⟨_, rfl, hb, fun j u hu => by rw [show (Addr.add ⟨b, o, none⟩ j) = ⟨b, o + j, none⟩ from by simp [Addr.add]]; exact h.row b o rfl j u hu⟩⟩
set_option maxRecDepth 100000 in
set_option maxHeartbeats 2000000 in
theorem variables_any (n : Ng) (w : World) (hx : n.Lies w (· < w.heap.size)) (hz : n.ins.length ≤ 1000000 ∧ n.outs.length ≤ 1000000 ∧ n.locs.length ≤ 1000000) :
    Calls Tryd.prog 33 #[n.val] w fun e w' => ∃ v, e = .returned v ∧ Ow LD w' w.heap.size v (n.ins ++ (n.outs ++ n.locs)) ∧ Below w.heap.size w w' := by
  obtain ⟨name, iA, ic, ins, oA, oc, outs, lA, lc, locs, qA, qc, eqs⟩ := n
  unfold Ng.val
  dsimp only at hz ⊢
  obtain ⟨a, ha⟩ : ∃ a, a = ins.length := ⟨_, rfl⟩
  obtain ⟨b, hb⟩ : ∃ b, b = outs.length := ⟨_, rfl⟩
  obtain ⟨c, hc⟩ : ∃ c, c = locs.length := ⟨_, rfl⟩
  obtain ⟨k, hk⟩ : ∃ k, k = eqs.length := ⟨_, rfl⟩
  rw [← ha, ← hb, ← hc, ← hk]
  have HX := Lib.hid hx
  have HA := Lib.hid ha
  have HB := Lib.hid hb
  have HC := Lib.hid hc
  have HZ := Lib.hid hz
  clear hx ha hb hc hk hz
  go_enter Tryd.func33, Tryd.ntmps33
  go_wp2_with fail
  obtain ⟨W1, hW1⟩ : ∃ W1, W1 = ((w.alloc (.cells #[.string ⟨name.toArray⟩, .slice iA a ic, .slice oA b oc, .slice lA c lc, .slice qA k qc] 30)).alloc (.cells #[.slice iA a ic, .slice oA b oc, .slice lA c lc] 27)) := ⟨_, rfl⟩
  have hB1 : Below w.heap.size w W1 := by rw [hW1]; exact ((Below.refl _ _).alloc (Nat.le_refl _) _).alloc (by simp) _
  have hb1 : Blk W1 (w.heap.size + 1) 27 #[.slice iA a ic, .slice oA b oc, .slice lA c lc] := by rw [hW1]; exact blk_news (by simp)
  rw [← hW1]
  have hz1 : W1.heap.size = w.heap.size + 2 := by rw [hW1]; simp
  clear hW1
  have rw3 : ∀ (A : Option Addr) (cc : Nat) (l : List Dc), Dl w (· < w.heap.size) A cc l → Rw LD W1 W1.heap.size A l ∧ (A = none → cc = 0) := fun A cc l h => by
    have h2 : Sl LD W1 (· < W1.heap.size) A cc l := h.sl.keep (fun b hb => by show b < W1.heap.size; omega) fun _ hp => hB1.cell hp
    exact ⟨h2.rwB, h2.hd.nil⟩
  have hL : ListsD W1 W1.heap.size (some ⟨w.heap.size + 1, 0, none⟩) [⟨iA, ic, ins⟩, ⟨oA, oc, outs⟩, ⟨lA, lc, locs⟩] := by
    refine ⟨fun i s hs => ⟨_, rfl, by show w.heap.size + 1 < _; omega, ?_⟩, fun s hs => ?_⟩
    · match i, hs with
      | 0, hs => cases hs; rw [show SlD.v ⟨iA, ic, ins⟩ = .slice iA a ic from by rw [HA.out]; rfl]; exact hb1.cell 0
      | 1, hs => cases hs; rw [show SlD.v ⟨oA, oc, outs⟩ = .slice oA b oc from by rw [HB.out]; rfl]; exact hb1.cell 1
      | 2, hs => cases hs; rw [show SlD.v ⟨lA, lc, locs⟩ = .slice lA c lc from by rw [HC.out]; rfl]; exact hb1.cell 2
    · simp only [List.mem_cons, List.not_mem_nil, or_false] at hs
      rcases hs with rfl | rfl | rfl
      · exact rw3 _ _ _ HX.out.i
      · exact rw3 _ _ _ HX.out.o
      · exact rw3 _ _ _ HX.out.l
  have hfl : flatD [⟨iA, ic, ins⟩, ⟨oA, oc, outs⟩, ⟨lA, lc, locs⟩] = ins ++ (outs ++ locs) := by simp [flatD]
  refine (concatD_any (some ⟨w.heap.size + 1, 0, none⟩) 3 3 _ W1 rfl hL (by rw [hfl]; have := HZ.out; have := HA.out; have := HB.out; have := HC.out; simp; omega) (by omega)).mono ?_
  rintro e w2 ⟨v, rfl, hO, hB2⟩
  rw [hfl] at hO
  have HO := Lib.hid (hO.mono (by omega : w.heap.size ≤ W1.heap.size))
  have HB2 := Lib.hid (hB1.trans (hB2.mono (by omega)))
  clear hO hB2 hL rw3 hfl hb1 hB1
  go_wp2
  go_ret
  exact ⟨v, rfl, HO.out, HB2.out⟩
end Go.Proofs.YtacmibkcnmaagaaDoor
