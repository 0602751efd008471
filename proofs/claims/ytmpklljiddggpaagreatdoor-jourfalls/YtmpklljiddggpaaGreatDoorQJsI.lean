/-
  The walk of the library's insertionSortCmpFunc at changes. Conditions: each theorem's own premises.
-/
import Derived.Test.YtmpklljiddggpaaGreatDoorQJsC
namespace Go.Proofs.YtmpklljiddggpaaGreatDoor
open Go.Shelf Go.RowKit Go.Lib Go.Sort

set_option maxHeartbeats 4000000 in
set_option maxRecDepth 100000 in
theorem ins_any (blk off cap a b : Nat) (d0 d : Array El) (w0 w : World) (R : RowK encE 3 w0 blk off d0) (hs : d0.size = d.size) (S : SWK encE 3 w0 blk off d w) (hab : a ≤ b) (hb : b ≤ d.size) (hsz : d.size < 4611686018427387904)
    (hx : ∀ p q, a ≤ p → p < q → q < b → d[p]!.2 < d[q]!.2) :
    Calls Tryz.prog 111 #[.slice (some ⟨blk, off, none⟩) d.size cap, .int .i64 a, .int .i64 b, cmpV] w (Merged w0 blk off d a b) := by
  have S0 : Aside (SWK encE 3 w0 blk off d w) := S
  have HR : Aside (RowK encE 3 w0 blk off d0) := R
  have HX : Aside _ := hx
  have mixed := mixed
  clear S R hx
  unfold cmpV
  go_enter Tryz.func111, Tryz.ntmps111
  go_wp2
  go_loopg [8, 9] (b - a) (fun kx s8 s9 wr => ∃ (i : Nat) (x : Array El), s8 = .int .i64 i ∧ a + 1 ≤ i ∧ b - i ≤ kx ∧ (i ≤ b ∨ i = a + 1) ∧ x.size = d.size ∧ Aside (PermIn a (min i b) d x) ∧ Aside (SortedIn ltI a i x) ∧ Aside (SWK encE 3 w0 blk off x wr))
  case atStart => exact ⟨a + 1, d, by go_num, by omega, by omega, .inr rfl, rfl, permIn_refl _ _ _, fun p q h1 h2 h3 => by omega, S0⟩
  case round =>
    clear S0
    obtain ⟨i, x, rfl, hai, hkx, hib, hxs, P1, T1, S1⟩ := hrel
    by_cases hlt : i < b
    · have hltI : (i : Int) < b := by omega
      have hmin : min i b = i := by omega
      have HM := Lib.hid hmin
      clear hmin
      go_wp2
      go_loopg [9] (i - a) (fun ky s9 wq => ∃ j : Nat, s9 = .int .i64 j ∧ a ≤ j ∧ j ≤ i ∧ j - a ≤ ky ∧ Aside (∀ k, j ≤ k → k < i → ltI x[i]! x[k]! = true) ∧ Aside (SWK encE 3 w0 blk off (rotF x j i (i + 1)) wq))
      case atStart => exact ⟨i, rfl, by omega, by omega, by omega, fun k h1 h2 => by omega, by rw [rot_none x i i (i + 1) (by omega) (by omega) (by omega) (.inl rfl)]; exact S1⟩
      case round =>
        clear S1
        obtain ⟨j, rfl, haj, hji, hky, C1, S1⟩ := hrel
        have hys := rotF_size x j i (i + 1)
        by_cases hgt : a < j
        · obtain ⟨q, rfl⟩ : ∃ q, j = q + 1 := ⟨j - 1, by omega⟩
          have hgtI : (a : Int) < (q : Int) + 1 := by omega
          have hq1 : (q : Int) + 1 - 1 = (q : Int) := by omega
          have hqw : IntKind.i64.wrap (q : Int) = (q : Int) := by rw [IntKind.wrap_i64]; omega
          have ej : (rotF x (q + 1) i (i + 1))[q + 1]! = x[i]! := by
            rw [rotF_get x (q + 1) i (i + 1) (by omega) (by omega) (by omega), if_pos (by omega)]
            exact at_eq x (by omega)
          have eq : (rotF x (q + 1) i (i + 1))[q]! = x[q]! := by
            rw [rotF_get x (q + 1) i (i + 1) (by omega) (by omega) (by omega), if_neg (by omega), if_neg (by omega)]
          have hcross : x[q]!.2 < x[i]!.2 := by
            have hp := P1.out
            rw [HM.out] at hp
            rw [hp.2.1 i (.inr (Nat.le_refl _))]
            exact permIn_all d x a i (fun v => v.2 < d[i]!.2) (by omega) hp (fun k k1 k2 => HX.out k i k1 k2 hlt) q (by omega) (by omega)
          have hl := ltI_cf hcross
          go_wp2_with fail
          obtain ⟨l0, l1, l2⟩ := test3 S1.out HR.out (by omega) (q + 1) (by omega)
          obtain ⟨m0, m1, m2⟩ := test3 S1.out HR.out (by omega) q (by omega)
          have e1 : ((q : Int) + 1).toNat = q + 1 := by omega
          have hb1 : (q : Int) + 1 < d.size := by omega
          have hb2 : (q : Int) < d.size := by omega
          have hb3 : (0 : Int) ≤ (q : Int) + 1 := by omega
          have hc := test_call x[i]! x[q]! wr
          rw [ej] at l0 l1 l2
          rw [eq] at m0 m1 m2
          generalize hX : x[i]! = X at l0 l1 l2 hc hl
          generalize hY : x[q]! = Y at m0 m1 m2 hc hl
          have HXY := Lib.hid (And.intro hX hY)
          have HL := Lib.hid hl
          clear hX hY hl ej eq hcross
          generalize cfE X Y = r at hc HL
          by_cases hlv : r < 0
          · go_quiet_grown ((go_at_call 72; exact Calls.grown_of (hc _ _)))
            have S2 : Aside (SWK encE 3 w0 blk off (rotF x (q + 1) i (i + 1)) (grow (wr.drewN nq) osq)) := S1.out.grown nq osq
            clear l0 l1 l2 m0 m1 m2 hc S1
            generalize grow (wr.drewN nq) osq = wz at *
            have hlt' : ltI x[i]! x[q]! = true := by rw [HXY.out.1, HXY.out.2, HL.out]; exact decide_eq_true hlv
            have C2 : Aside (∀ k, q ≤ k → k < i → ltI x[i]! x[k]! = true) := fun k k1 k2 => by
              rcases Nat.lt_or_ge q k with h | h
              · exact C1.out k (by omega) k2
              · obtain rfl : k = q := by omega
                exact hlt'
            clear hlt' HXY HL C1
            go_wp2_with fail
            have S3 := swapped3 S2.out HR.out (q + 1) q (by omega) (by omega)
            rw [rot_down x q i (by omega) (by omega)] at S3
            obtain ⟨⟨c0, c1, c2⟩, z0, z1, z2⟩ := cells3 S2.out HR.out (by omega) q (by omega)
            obtain ⟨⟨d0, d1, d2⟩, y0, y1, y2⟩ := cells3 S2.out HR.out (by omega) (q + 1) (by omega)
            have hoo : off + q * 3 + 2 < off + (q + 1) * 3 := by omega
            generalize (rotF x (q + 1) i (i + 1))[q]! = X at S3 c0 c1 c2
            generalize (rotF x (q + 1) i (i + 1))[q + 1]! = Y at S3 d0 d1 d2
            generalize hP : off + q * 3 = o1 at *
            generalize hQ : off + (q + 1) * 3 = o2 at *
            have S4 : Aside _ := S3
            clear S2 S3 hys
            go_big_region_o
            go_wp2
            go_roundg (q - a)
            case measure => omega
            case rel => exact ⟨q, by go_num, by omega, by omega, Nat.le_refl _, C2, S4⟩
          · go_quiet_grown ((go_at_call 72; exact Calls.grown_of (hc _ _)))
            have S2 : Aside (SWK encE 3 w0 blk off (rotF x (q + 1) i (i + 1)) (grow (wr.drewN nq) osq)) := S1.out.grown nq osq
            clear l0 l1 l2 m0 m1 m2 hc S1
            generalize grow (wr.drewN nq) osq = wz at *
            have hle : ltI x[i]! x[q]! = false := by rw [HXY.out.1, HXY.out.2, HL.out]; exact decide_eq_false (by omega)
            have HLe := Lib.hid hle
            clear hle
            go_wp2
            go_roundg (b - (i + 1))
            case measure => omega
            case rel =>
              refine ⟨i + 1, rotF x (q + 1) i (i + 1), by go_num, by omega, Nat.le_refl _, .inl (by omega), hys.trans hxs, ?_, ?_, S2⟩
              · rw [show min (i + 1) b = i + 1 by omega]
                have hp := P1.out
                rw [HM.out] at hp
                exact permIn_trans _ _ _ _ _ (permIn_mono _ _ _ _ _ _ (Nat.le_refl _) (by omega) (by omega) hp) (permIn_mono _ _ _ _ _ _ (by omega) (Nat.le_refl _) (by omega) (rot_perm x (q + 1) i (i + 1) (by omega) (by omega) (by omega)))
              · exact rot_in_last swoI (by omega) (by omega) (by omega) T1.out (fun _ => by rw [Nat.add_sub_cancel]; exact HLe.out) C1.out
        · obtain rfl : a = j := by omega
          have hgtI : ¬ (a : Int) < a := by omega
          go_wp2_with fail
          go_quiet (fail)
          have S2 : Aside (SWK encE 3 w0 blk off (rotF x a i (i + 1)) (wr.drewN nq)) := S1.out.drewN nq
          clear S1
          generalize wr.drewN nq = wz at *
          go_wp2
          go_roundg (b - (i + 1))
          case measure => omega
          case rel =>
            refine ⟨i + 1, rotF x a i (i + 1), by go_num, by omega, Nat.le_refl _, .inl (by omega), hys.trans hxs, ?_, ?_, S2⟩
            · rw [show min (i + 1) b = i + 1 by omega]
              have hp := P1.out
              rw [HM.out] at hp
              exact permIn_trans _ _ _ _ _ (permIn_mono _ _ _ _ _ _ (Nat.le_refl _) (by omega) (by omega) hp) (permIn_mono _ _ _ _ _ _ (by omega) (Nat.le_refl _) (by omega) (rot_perm x a i (i + 1) (by omega) (by omega) (by omega)))
            · exact rot_in_last swoI (by omega) (by omega) (by omega) T1.out (fun h => by omega) C1.out
    · have hltI : ¬ (i : Int) < b := by omega
      go_wp2
      go_end0
      have hmin : min i b = b := by omega
      have hp := P1.out
      rw [hmin] at hp
      exact ⟨rfl, x, hp, fun p q h1 h2 h3 => T1.out p q h1 h2 (by omega), S1.out⟩
end Go.Proofs.YtmpklljiddggpaaGreatDoor
