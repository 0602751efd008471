/-
  The walks of the library's stableCmpFunc and SortStableFunc at changes. Conditions: each theorem's own premises.
-/
import Derived.Test.YtmpklljiddggpaaGreatDoorQJsI
import Derived.Test.YtmpklljiddggpaaGreatDoorQJsT
namespace Go.Proofs.YtmpklljiddggpaaGreatDoor
open Go.Shelf Go.RowKit Go.Lib Go.Sort

set_option maxHeartbeats 4000000 in
set_option maxRecDepth 100000 in
theorem stable_any (blk off cap : Nat) (E : Array El) (w : World) (R : RowK encE 3 w blk off E) (hsz : E.size < 2305843009213693952) (hE : ∀ i, i < E.size → E[i]!.2 = i) :
    Calls Tryz.prog 92 #[.slice (some ⟨blk, off, none⟩) E.size cap, .int .i64 (E.size : Int), cmpV] w (Merged w blk off E 0 E.size) := by
  have S0 : Aside (SWK encE 3 w blk off E w) := SWK.start R.hH
  have HR : Aside (RowK encE 3 w blk off E) := R
  have HE : Aside _ := hE
  have HP : Aside (P1 E E E.size 0) := p1_start hE
  obtain ⟨N, hN⟩ : ∃ N, N = E.size := ⟨_, rfl⟩
  have HN := Lib.hid hN
  rw [← hN] at hsz HP HE
  have hI := fun (a b : Nat) (d : Array El) (W : World) (S : SWK encE 3 w blk off d W) (hs : d.size = N) (h1 : a ≤ b) (h2 : b ≤ N) (hx : ∀ p q, a ≤ p → p < q → q < b → d[p]!.2 < d[q]!.2) =>
    ins_any blk off cap a b E d w W R (by rw [hs]; exact HN.out.symm) S h1 (by omega) (by omega) hx
  have hM := fun (a m b : Nat) (d : Array El) (W : World) (S : SWK encE 3 w blk off d W) (hs : d.size = N) (h1 : a < m) (h2 : m < b) (h3 : b ≤ N) (hT : Two d a m b) =>
    symMerge_any blk off cap E w R (by rw [← HN.out]; omega) (b - a) a m b d W (Nat.le_refl _) h1 h2 (by omega) (by rw [hs]; exact HN.out.symm) S hT
  have HI : Aside _ := hI
  have HM : Aside _ := hM
  rw [← hN]
  clear R hE hI hM hN
  unfold cmpV at *
  go_enter Tryz.func92, Tryz.ntmps92
  go_wp2
  go_loopg [7, 8] N (fun kx s7 s8 wr => ∃ (a : Nat) (d : Array El), s7 = .int .i64 a ∧ s8 = .int .i64 ((a : Int) + 20) ∧ a ≤ N ∧ N - a ≤ kx ∧ Aside (P1 E d N a) ∧ Aside (SWK encE 3 w blk off d wr))
  case atStart => exact ⟨0, E, rfl, rfl, by omega, by omega, HP, S0⟩
  case round =>
    clear S0 HP
    obtain ⟨a, d, rfl, rfl, haN, hkx, I1, S1⟩ := hrel
    by_cases hlt : a + 20 ≤ N
    · have hltI : (a : Int) + 20 ≤ N := by omega
      have hc := HI.out a (a + 20) d wr S1.out I1.out.dsize (by omega) hlt (I1.out.cross HE.out hlt)
      rw [I1.out.dsize, show ((a + 20 : Nat) : Int) = (a : Int) + 20 by omega] at hc
      have HC := Lib.hid hc
      clear hc
      go_wp2_with fail
      refine HC.out.mono ?_
      rintro e w2 ⟨rfl, d2, p2, s2, S2⟩
      have I2 : Aside (P1 E d2 N (a + 20)) := I1.out.step hlt p2 s2
      have S3 : Aside _ := S2
      clear S2 p2 s2 HC S1 I1
      go_wp2
      go_roundg (N - (a + 20))
      case measure => omega
      case rel => exact ⟨a + 20, d2, by go_num, by go_num, hlt, Nat.le_refl _, I2, S3⟩
    · have hltI : ¬ (a : Int) + 20 ≤ N := by omega
      have hc := HI.out a N d wr S1.out I1.out.dsize haN (Nat.le_refl _) (I1.out.cross HE.out (Nat.le_refl _))
      rw [I1.out.dsize] at hc
      have HC := Lib.hid hc
      clear hc
      go_wp2_with fail
      refine HC.out.mono ?_
      rintro e w2 ⟨rfl, d2, p2, s2, S2⟩
      have I2 : Aside (P2 E d2 N 20) := I1.out.last (by omega) p2 s2
      have S3 : Aside _ := S2
      clear S2 p2 s2 HC S1 I1 hkx haN
      go_wp2
      go_loopg [6, 7, 8, 9] N (fun kx s6 s7 s8 s9 wr => ∃ (n : Nat) (x : Array El), s6 = .int .i64 n ∧ 0 < n ∧ (n ≤ N * 2 ∨ n ≤ 40) ∧ N - n ≤ kx ∧ Aside (P2 E x N n) ∧ Aside (SWK encE 3 w blk off x wr))
      case atStart => exact ⟨20, d2, rfl, by omega, by omega, by omega, I2, S3⟩
      case round =>
        clear S3 I2 hlt hltI
        obtain ⟨n, x, rfl, hn0, hnN, hkx, I3, S3⟩ := hrel
        by_cases hlt : n < N
        · have hltI : (n : Int) < N := by omega
          have I4 : Aside (P3 E x N n 0) := I3.out.start
          clear I3
          go_wp2
          go_loopg [7, 8] N (fun ky s7 s8 wr => ∃ (a : Nat) (y : Array El), s7 = .int .i64 a ∧ s8 = .int .i64 ((a : Int) + n * 2) ∧ a ≤ N ∧ N - a ≤ ky ∧ Aside (P3 E y N n a) ∧ Aside (SWK encE 3 w blk off y wr))
          case atStart => exact ⟨0, x, rfl, by go_num, by omega, by omega, I4, S3⟩
          case round =>
            clear S3 I4
            obtain ⟨a, y, rfl, rfl, haN, hky, I4, S4⟩ := hrel
            by_cases hle : a + n * 2 ≤ N
            · have hleI : (a : Int) + n * 2 ≤ N := by omega
              have hc := HM.out a (a + n) (a + n * 2) y wr S4.out I4.out.dsize (by omega) (by omega) hle (I4.out.two hle (Nat.le_refl _) (by omega))
              rw [I4.out.dsize, show ((a + n * 2 : Nat) : Int) = (a : Int) + n * 2 by omega, show ((a + n : Nat) : Int) = (a : Int) + n by omega] at hc
              have HC := Lib.hid hc
              clear hc
              go_wp2_with fail
              refine HC.out.mono ?_
              rintro e w5 ⟨rfl, d5, p5, s5, S5⟩
              have I6 : Aside (P3 E d5 N n (a + n * 2)) := I4.out.step hle p5 s5
              have S6 : Aside _ := S5
              clear S5 p5 s5 HC S4 I4
              go_wp2
              go_roundg (N - (a + n * 2))
              case measure => omega
              case rel => exact ⟨a + n * 2, d5, by go_num, by go_num, hle, Nat.le_refl _, I6, S6⟩
            · have hleI : ¬ (a : Int) + n * 2 ≤ N := by omega
              by_cases hm : a + n < N
              · have hmI : (a : Int) + n < N := by omega
                have hc := HM.out a (a + n) N y wr S4.out I4.out.dsize (by omega) hm (Nat.le_refl _) (I4.out.two (Nat.le_refl _) (by omega) hm)
                rw [I4.out.dsize, show ((a + n : Nat) : Int) = (a : Int) + n by omega] at hc
                have HC := Lib.hid hc
                clear hc
                go_wp2_with fail
                refine HC.out.mono ?_
                rintro e w5 ⟨rfl, d5, p5, s5, S5⟩
                have I6 : Aside (P2 E d5 N (n * 2)) := I4.out.last (by omega) p5 s5
                have S6 : Aside _ := S5
                clear S5 p5 s5 HC S4 I4
                go_wp2
                go_roundg (N - n * 2)
                case measure => omega
                case rel => exact ⟨n * 2, d5, by go_num, by omega, by omega, Nat.le_refl _, I6, S6⟩
              · have hmI : ¬ (a : Int) + n < N := by omega
                have I6 : Aside (P2 E y N (n * 2)) := I4.out.last (by omega) (permIn_refl _ _ _) (I4.out.rest (by omega))
                clear I4
                go_wp2
                go_roundg (N - n * 2)
                case measure => omega
                case rel => exact ⟨n * 2, y, by go_num, by omega, by omega, Nat.le_refl _, I6, S4⟩
        · have hltI : ¬ (n : Int) < N := by omega
          go_wp2
          go_end0
          exact ⟨rfl, x, I3.out.perm, I3.out.whole (by omega), S3.out⟩

set_option maxRecDepth 100000 in
theorem sortStable_any (blk off cap : Nat) (E : Array El) (w : World) (R : RowK encE 3 w blk off E) (hsz : E.size < 2305843009213693952) (hE : ∀ i, i < E.size → E[i]!.2 = i) :
    Calls Tryz.prog 71 #[.slice (some ⟨blk, off, none⟩) E.size cap, cmpV] w (Merged w blk off E 0 E.size) := by
  have hc := stable_any blk off cap E w R hsz hE
  clear R hE
  unfold cmpV at *
  go_enter Tryz.func71, Tryz.ntmps71
  go_wp2_with fail
  refine hc.mono ?_
  rintro e w2 ⟨rfl, h⟩
  go_wp2
  go_end0
  exact ⟨rfl, h⟩
end Go.Proofs.YtmpklljiddggpaaGreatDoor
