/-
  The walk of the document's Pieces. Conditions: each theorem's own premises.
-/
import Derived.Test.YtacmibkcnmaagaaDoorQTxQ
import Derived.Test.YtacmibkcnmaagaaDoorQTxG
namespace Go.Proofs.YtacmibkcnmaagaaDoor
open Go.Shelf Go.RowKit Go.Lib

/-- What Pieces leaves. -/
def RetPies (w : World) (s : ByteArray) (e : Ending) (w' : World) : Prop := ∃ v, e = .returned v ∧ Ow LP w' w.heap.size v (pies 0 (pcs s.data.toList)) ∧ Below w.heap.size w w'
/-- Where its loop stands. -/
def PsRel (w : World) (s : ByteArray) (v i : Value) (wr : World) : Prop :=
  ∃ (k : Nat) (a : List (Nat × Nat)), k ≤ s.size ∧ pcs s.data.toList = a ++ pcs (s.data.toList.drop k) ∧ i = .int .i64 (k : Int) ∧ Ow LP wr w.heap.size v (pies 0 a) ∧ Below w.heap.size w wr
theorem ps_wid {s : ByteArray} {k : Nat} {a : List (Nat × Nat)} (hk : k ≤ s.size) (h : pcs s.data.toList = a ++ pcs (s.data.toList.drop k)) : wid a = k := by
  have e1 := pcs_wid _ (s.data.toList.drop k) (Nat.le_refl _)
  have e2 := pcs_wid _ s.data.toList (Nat.le_refl _)
  rw [h, wid_append] at e2
  simp at e1 e2
  omega
theorem ps_len {s : ByteArray} {k : Nat} {a : List (Nat × Nat)} (h : pcs s.data.toList = a ++ pcs (s.data.toList.drop k)) : a.length ≤ s.size := by
  have := pcs_len s.data.toList
  rw [h] at this
  simp at this
  omega

set_option maxRecDepth 100000 in
set_option maxHeartbeats 1000000 in
theorem pieces_any (s : ByteArray) (w : World) (hs : s.size ≤ 1099511627775) : Calls Tryd.prog 40 #[.string s] w (RetPies w s) := by
  have HO := Lib.hid (fun i (hi : i < s.size) W => one_any s i W hi (by omega))
  go_enter Tryd.func40, Tryd.ntmps40
  go_wp2
  go_loopw [3, 4] (fun v i wr => PsRel w s v i wr) (fun _ i _ => s.size - (intOf i).toNat)
  case atStart => exact ⟨0, [], by omega, by simp, rfl, Ow.nil _ _ _, Below.refl _ _⟩
  case round =>
    obtain ⟨k, a, hk, hp, rfl, ho, hB⟩ := hrel
    by_cases h : k < s.size
    · have hwid := ps_wid hk hp
      have hlen := ps_len hp
      have hd := pcs_drop s.data.toList k (by simpa using h)
      have hpos := dec_pos (s.data.toList.drop k)
      have hle := dec_le (s.data.toList.drop k) (by intro e; have := congrArg List.length e; simp at this; omega)
      have H1 := Lib.hid (HO.out k h)
      obtain ⟨d, hdd⟩ : ∃ d, d = dec (s.data.toList.drop k) := ⟨_, rfl⟩
      rw [← hdd] at H1 hd hpos hle
      have hk2 : k + d.2 ≤ s.size := by simp at hle; omega
      have HP : Hid (pcs s.data.toList = (a ++ [d]) ++ pcs (s.data.toList.drop (k + d.2))) := Lib.hid (by rw [hp, hd]; simp)
      have HW : Hid (pies 0 (a ++ [d]) = pies 0 a ++ [(k, d)]) := Lib.hid (by rw [pies_snoc, hwid, Nat.zero_add])
      have hpl := pies_length 0 a
      have HOw := Lib.hid ho
      have HB := Lib.hid hB
      clear hdd hd hp hwid hle ho hB
      unfold RetPie pieV at H1
      obtain ⟨t, ht⟩ : ∃ t : Int, t = ((k + d.2 : Nat) : Int) := ⟨_, rfl⟩
      obtain ⟨b, hb⟩ : ∃ b, b = decide (d = (65533, 1)) := ⟨_, rfl⟩
      rw [← ht, ← hb] at H1
      have HLie : Hid (LP.enc (k, d) = [.int .i32 (d.1 : Int), .int .i64 (k : Int), .int .i64 t, .bool b]) := Lib.hid (by rw [ht, hb]; rfl)
      have HT := Lib.hid ht
      clear ht hb
      go_wp2_with fail
      refine (H1.out _).mono ?_
      rintro e w1 ⟨rfl, hB1⟩
      have ho1 := HOw.out.below hB1 (Nat.le_refl _)
      have hB1w := HB.out.trans (hB1.mono HB.out.size)
      have hs1 := hB1w.size
      have hBx : Blk (w1.alloc (.cells #[.int .i32 (d.1 : Int), .int .i64 (k : Int), .int .i64 t, .bool b] 75)) w1.heap.size _ _ := heap_alloc_new w1 _
      have ho2 : Ow LP (w1.alloc (.cells #[.int .i32 (d.1 : Int), .int .i64 (k : Int), .int .i64 t, .bool b] 75)) w.heap.size u3 (pies 0 a) := ho1.keep fun g hg => Below.heap_alloc w1 _ g (ho1.block g hg).2
      have hlt := fun g hg => (ho1.block g hg).2
      have hB2 : Below w.heap.size w (w1.alloc (.cells #[.int .i32 (d.1 : Int), .int .i64 (k : Int), .int .i64 t, .bool b] 75)) := hB1w.alloc hs1 _
      obtain ⟨v4, w4, hrun4, hO4, hB4, _, hK4⟩ := append_ow_one LPat (k, d) ho2 (by omega) hB2.size
      have hbx4 := (hK4 w1.heap.size (by simp) (fun e => by have := hlt _ e.symm; omega)).trans hBx
      have c2 : w4.cell? ⟨w1.heap.size, 2, none⟩ = some (.int .i64 t) := Blk.cell hbx4 2
      have HO4 := Lib.hid hO4
      have HB4 := Lib.hid (hB2.trans (hB4.mono (Nat.le_refl _)))
      have hrun5 : ∀ ty, (Builtin.append_ #[71, 71] ty #[u3, .slice (some ⟨w1.heap.size + 1, 0, none⟩) 1 1]).run Tryd.prog ((w1.alloc (.cells #[.int .i32 (d.1 : Int), .int .i64 (k : Int), .int .i64 t, .bool b] 75)).alloc (.cells #[.int .i32 (d.1 : Int), .int .i64 (k : Int), .int .i64 t, .bool b] 75)) = .ok v4 w4 := fun ty => by
        have := hrun4 ty
        rw [World.size_alloc, HLie.out] at this
        exact this
      have HRun := Lib.hid hrun5
      clear hO4 hB4 hK4 hbx4 hBx ho1 ho2 hB2 hlt hB1 hB1w hrun4 hrun5 H1
      go_wp2_with (at_builtin; refine wpList_append_eq rfl _ _ 71 rfl _ _ v4 w4 rfl rfl (HRun.out _) ?_)
      go_roundw
      case rel => exact ⟨k + d.2, a ++ [d], hk2, HP.out, by rw [HT.out], by rw [HW.out]; exact HO4.out, HB4.out⟩
      case measure => rw [HT.out]; simp [intOf]; omega
    · have HE : Hid (pcs s.data.toList = a) := Lib.hid (by rw [hp, pcs_end _ _ (by simpa using h)]; simp)
      have HOw := Lib.hid ho
      clear hp ho
      go_wp2
      go_ret
      exact ⟨_, rfl, by rw [HE.out]; exact HOw.out, hB⟩
end Go.Proofs.YtacmibkcnmaagaaDoor
