/-
  The walk of the document's Valid. Conditions: its own premises.
-/
import Derived.Test.YtndagbmcdpafjaaDoorQLsA
import Derived.Test.YtndagbmcdpafjaaDoorQLbA
namespace Go.Proofs.YtndagbmcdpafjaaDoor
open Go.Shelf Go.RowKit Go.Lib

/-- What the document's Valid leaves. -/
def RetRv (w : World) (s : ByteArray) (e : Ending) (w' : World) : Prop :=
  Below w.heap.size w w' ∧ ((noBad s ∧ e = .returned (fault 0 false false 0 0)) ∨ ∃ p : Nat, badAt s p ∧ e = .returned (fault 105 true false (p : Int) 0))
theorem badAt_take {s : ByteArray} {k : Nat} (hk : k < (pcs s.data.toList).length) (h : ∀ d ∈ (pcs s.data.toList).take k, badD d = false) (hb : badD (pcs s.data.toList)[k] = true) : badAt s k :=
  ⟨(pcs s.data.toList).take k, (pcs s.data.toList)[k], (pcs s.data.toList).drop (k + 1), by rw [List.getElem_cons_drop, List.take_append_drop], by simp; omega, h, hb⟩
theorem good_take {L : List (Nat × Nat)} {k : Nat} (hk : k < L.length) (h : ∀ d ∈ L.take k, badD d = false) (hb : badD L[k] = false) : ∀ d ∈ L.take (k + 1), badD d = false := fun d hd => by
  rw [List.take_succ_eq_append_getElem hk] at hd
  rcases List.mem_append.1 hd with hd | hd
  · exact h d hd
  · simp at hd
    rw [hd]
    exact hb

set_option maxRecDepth 100000 in
set_option maxHeartbeats 4000000 in
theorem rvalid_any (s : ByteArray) (w : World) (hs : s.size ≤ 4096) : Calls Tryd.prog 24 #[.string s] w (RetRv w s) := by
  obtain ⟨W0, hW0⟩ : ∃ W0, W0 = w.alloc (.cells #[.int .i64 0, .bool false, .bool false, .int .i64 0, .int .i64 0] 30) := ⟨_, rfl⟩
  have hB0 : Below w.heap.size w W0 := by rw [hW0]; exact (Below.refl _ _).alloc (Nat.le_refl _) _
  have hr0 : Blk5 W0 w.heap.size 0 0 false := by rw [hW0]; exact heap_alloc_new w _
  have HP := Lib.hid (pieces_any s W0 (by omega))
  have HB0 := Lib.hid hB0
  have HR0 := Lib.hid hr0
  have hpl := pcs_len s.data.toList
  have hpz : (pcs s.data.toList).length ≤ 4096 := by simp at hpl; omega
  clear hB0 hr0 hpl
  go_enter Tryd.func24, Tryd.ntmps24
  go_wp2_with fail
  rw [← hW0]
  clear hW0
  refine HP.out.mono ?_
  rintro e w1 ⟨v, rfl, hO, hB1⟩
  have HR1 := Lib.hid (HR0.out.below hB1 HR0.out.lt)
  have HB1 := Lib.hid (HB0.out.trans (hB1.mono HB0.out.size))
  clear hB1 HP HR0 HB0
  by_cases hne : pies 0 (pcs s.data.toList) = []
  · have HN : Hid (noBad s) := Lib.hid (by
      have h0 : (pcs s.data.toList).length = 0 := by rw [← pies_length 0, hne]; rfl
      intro d hd
      rw [List.eq_nil_of_length_eq_zero h0] at hd
      cases hd)
    rw [hne] at hO
    obtain ⟨A, c, rfl⟩ := hO.slice
    clear hO hne
    rw [List.length_nil]
    go_wp2
    go_loop [4] (fun x => x = .int .i64 0) (fun _ => 0)
    case atStart => rfl
    case round =>
      obtain rfl := hrel
      go_wp2_with fail
      refine (none_any _).mono ?_
      rintro e w2 ⟨rfl, hB2⟩
      have R2 := HR1.out.below hB2 HR1.out.lt
      have HB2 := Lib.hid (HB1.out.trans (hB2.mono HB1.out.size))
      obtain ⟨⟨q0, q1, q2, q3, q4⟩, f0, f1, f2, f3, f4⟩ := blk5 R2
      have HFin := Lib.hid (set5_blk R2 0 0 false)
      have HBF := Lib.hid (set5_below HB2.out (Nat.le_refl _) 0 0 false)
      clear hB2 R2
      go_wp2
      obtain ⟨⟨d0, d1, d2, d3, d4⟩, _⟩ := blk5 HFin.out
      unfold set5 at d0 d1 d2 d3 d4
      exact bodyPost_ret (v := fault 0 false false 0 0) (by simp [results, Tryd.results24, go_sem, d0, d1, d2, d3, d4]) rfl ⟨HBF.out, .inl ⟨HN.out, rfl⟩⟩
  · obtain ⟨g, c, rfl, -, -, hlc, hcell⟩ := hO.at_ hne
    have hln := pies_length 0 (pcs s.data.toList)
    have HCl : Hid (∀ k (hk : k < (pcs s.data.toList).length), w1.cell? ⟨g, k * 4, none⟩ = some (.int .i32 ((pcs s.data.toList)[k].1 : Int)) ∧ w1.cell? ⟨g, k * 4 + 3, none⟩ = some (.bool (decide ((pcs s.data.toList)[k] = (65533, 1))))) := Lib.hid fun k hk => by
      have hk2 : k < (pies 0 (pcs s.data.toList)).length := by omega
      have hx := pies_get 0 _ k _ (List.getElem?_eq_getElem hk2)
      rw [List.getElem?_eq_getElem hk] at hx
      have h0 := hcell k hk2 0 (.int .i32 ((pies 0 (pcs s.data.toList))[k].2.1 : Int)) rfl
      have h3 := hcell k hk2 3 (.bool (decide ((pies 0 (pcs s.data.toList))[k].2 = (65533, 1)))) rfl
      rw [← Option.some.inj hx] at h0 h3
      exact ⟨h0, h3⟩
    obtain ⟨n, hn⟩ : ∃ n, n = (pies 0 (pcs s.data.toList)).length := ⟨_, rfl⟩
    rw [← hn] at hlc ⊢
    have HN0 := Lib.hid (hn.trans hln)
    have hn4 : n ≤ 4096 := by omega
    clear hcell hO hne hln hn hpz
    go_wp2
    go_loop [4] (fun x => ∃ k : Nat, k ≤ n ∧ x = .int .i64 (k : Int) ∧ ∀ d ∈ (pcs s.data.toList).take k, badD d = false) (fun x => n - (RowKit.intOf x).toNat)
    case atStart => exact ⟨0, by omega, rfl, by simp⟩
    case round =>
      obtain ⟨k, hk, rfl, hg⟩ := hrel
      by_cases hp : k < n
      · have hkl : k < (pcs s.data.toList).length := by have := HN0.out; omega
        obtain ⟨c0, c3⟩ := HCl.out k hkl
        have hbad := Lib.hid (fun h => badAt_take hkl hg h)
        have hgood := Lib.hid (fun h => good_take hkl hg h)
        obtain ⟨d, hd⟩ : ∃ d, d = (pcs s.data.toList)[k] := ⟨_, rfl⟩
        rw [← hd] at c0 c3 hbad hgood
        obtain ⟨a, b⟩ := d
        clear hd hg hkl
        dsimp only at c0
        cases hz : decide ((a, b) = (65533, 1))
        · have hq : badD (a, b) = ctlB a := by unfold badD; rw [hz, Bool.or_false]
          rw [hz] at c3
          clear hz
          rw [hq] at hbad hgood
          by_cases h9 : a = 9
          · subst h9
            have HK := Lib.hid (hgood.out (by decide))
            clear hbad hgood hq
            go_wp2
            go_round
            case rel => exact ⟨k + 1, by omega, by go_num, HK.out⟩
            case measure => simp [RowKit.intOf]; omega
          by_cases h10 : a = 10
          · subst h10
            have HK := Lib.hid (hgood.out (by decide))
            clear hbad hgood hq
            go_wp2
            go_round
            case rel => exact ⟨k + 1, by omega, by go_num, HK.out⟩
            case measure => simp [RowKit.intOf]; omega
          have h9' : ((a : Int) != 9) = true := by simp; omega
          have h10' : ((a : Int) != 10) = true := by simp; omega
          by_cases h32 : a < 32
          · have HK := Lib.hid (hbad.out (by unfold ctlB; simp; omega))
            clear hbad hgood hq
            go_wp2_with fail
            refine (placed_any 105 (k : Int) _ (by decide)).mono ?_
            rintro e w2 ⟨rfl, hB2⟩
            have R2 := HR1.out.below hB2 HR1.out.lt
            have HB2 := Lib.hid (HB1.out.trans (hB2.mono HB1.out.size))
            obtain ⟨⟨q0, q1, q2, q3, q4⟩, f0, f1, f2, f3, f4⟩ := blk5 R2
            have HFin := Lib.hid (set5_blk R2 105 (k : Int) true)
            have HBF := Lib.hid (set5_below HB2.out (Nat.le_refl _) 105 (k : Int) true)
            clear hB2 R2
            go_wp2
            obtain ⟨⟨d0, d1, d2, d3, d4⟩, _⟩ := blk5 HFin.out
            unfold set5 at d0 d1 d2 d3 d4
            exact bodyPost_ret (v := fault 105 true false (k : Int) 0) (by simp [results, Tryd.results24, go_sem, d0, d1, d2, d3, d4]) rfl ⟨HBF.out, .inr ⟨k, HK.out, rfl⟩⟩
          by_cases h127 : a = 127
          · subst h127
            have HK := Lib.hid (hbad.out (by decide))
            clear hbad hgood hq
            go_wp2_with fail
            refine (placed_any 105 (k : Int) _ (by decide)).mono ?_
            rintro e w2 ⟨rfl, hB2⟩
            have R2 := HR1.out.below hB2 HR1.out.lt
            have HB2 := Lib.hid (HB1.out.trans (hB2.mono HB1.out.size))
            obtain ⟨⟨q0, q1, q2, q3, q4⟩, f0, f1, f2, f3, f4⟩ := blk5 R2
            have HFin := Lib.hid (set5_blk R2 105 (k : Int) true)
            have HBF := Lib.hid (set5_below HB2.out (Nat.le_refl _) 105 (k : Int) true)
            clear hB2 R2
            go_wp2
            obtain ⟨⟨d0, d1, d2, d3, d4⟩, _⟩ := blk5 HFin.out
            unfold set5 at d0 d1 d2 d3 d4
            exact bodyPost_ret (v := fault 105 true false (k : Int) 0) (by simp [results, Tryd.results24, go_sem, d0, d1, d2, d3, d4]) rfl ⟨HBF.out, .inr ⟨k, HK.out, rfl⟩⟩
          have h127' : ((a : Int) == 127) = false := beq_eq_false_iff_ne.2 (by omega)
          have h32' : (32 : Int) ≤ (a : Int) := by omega
          have HK := Lib.hid (hgood.out (by unfold ctlB; simp; omega))
          clear hbad hgood hq
          go_wp2
          go_round
          case rel => exact ⟨k + 1, by omega, by go_num, HK.out⟩
          case measure => simp [RowKit.intOf]; omega
        · have HK := Lib.hid (hbad.out (by unfold badD; rw [hz, Bool.or_true]))
          rw [hz] at c3
          clear hbad hgood hz
          go_wp2_with fail
          refine (placed_any 105 (k : Int) _ (by decide)).mono ?_
          rintro e w2 ⟨rfl, hB2⟩
          have R2 := HR1.out.below hB2 HR1.out.lt
          have HB2 := Lib.hid (HB1.out.trans (hB2.mono HB1.out.size))
          obtain ⟨⟨q0, q1, q2, q3, q4⟩, f0, f1, f2, f3, f4⟩ := blk5 R2
          have HFin := Lib.hid (set5_blk R2 105 (k : Int) true)
          have HBF := Lib.hid (set5_below HB2.out (Nat.le_refl _) 105 (k : Int) true)
          clear hB2 R2
          go_wp2
          obtain ⟨⟨d0, d1, d2, d3, d4⟩, _⟩ := blk5 HFin.out
          unfold set5 at d0 d1 d2 d3 d4
          exact bodyPost_ret (v := fault 105 true false (k : Int) 0) (by simp [results, Tryd.results24, go_sem, d0, d1, d2, d3, d4]) rfl ⟨HBF.out, .inr ⟨k, HK.out, rfl⟩⟩
      · have HN : Hid (noBad s) := Lib.hid (by rw [List.take_of_length_le (by have := HN0.out; omega)] at hg; exact hg)
        clear hg
        go_wp2_with fail
        refine (none_any _).mono ?_
        rintro e w2 ⟨rfl, hB2⟩
        have R2 := HR1.out.below hB2 HR1.out.lt
        have HB2 := Lib.hid (HB1.out.trans (hB2.mono HB1.out.size))
        obtain ⟨⟨q0, q1, q2, q3, q4⟩, f0, f1, f2, f3, f4⟩ := blk5 R2
        have HFin := Lib.hid (set5_blk R2 0 0 false)
        have HBF := Lib.hid (set5_below HB2.out (Nat.le_refl _) 0 0 false)
        clear hB2 R2
        go_wp2
        obtain ⟨⟨d0, d1, d2, d3, d4⟩, _⟩ := blk5 HFin.out
        unfold set5 at d0 d1 d2 d3 d4
        exact bodyPost_ret (v := fault 0 false false 0 0) (by simp [results, Tryd.results24, go_sem, d0, d1, d2, d3, d4]) rfl ⟨HBF.out, .inl ⟨HN.out, rfl⟩⟩
end Go.Proofs.YtndagbmcdpafjaaDoor
