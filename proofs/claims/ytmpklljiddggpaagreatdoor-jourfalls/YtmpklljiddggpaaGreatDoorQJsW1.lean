/-
  The walks of the library's swapRangeCmpFunc and rotateCmpFunc at changes. Conditions: each theorem's own premises.
-/
import Derived.Test.YtmpklljiddggpaaGreatDoorQJsE
import Derived.Shelf.SlSortCmp.KitK
import Derived.Deep.LoopGhost
namespace Go.Proofs.YtmpklljiddggpaaGreatDoor
open Go.Shelf Go.RowKit Go.Lib Go.Sort

/-- A change's cells. -/
def encC (c : Chg) : List Value := [.string ⟨c.key.toArray⟩, .string ⟨c.val.toArray⟩, .bool c.gone]
def encE (x : El) : List Value := encC x.1
theorem encE_len (x : El) : (encE x).length = 3 := rfl
theorem encE_one (x : El) : ∀ v ∈ encE x, v.oneCell' = true := by
  intro v hv
  simp only [encE, encC, List.mem_cons, List.not_mem_nil, or_false] at hv
  rcases hv with rfl | rfl | rfl <;> rfl
theorem mixed : Tryz.prog.follows .mixedOrders = true := by kernel_rfl

/-- An element's cells. -/
theorem cells3 {w0 W : World} {blk off : Nat} {d0 dk : Array El} (S : SWK encE 3 w0 blk off dk W) (R : RowK encE 3 w0 blk off d0) (hs : dk.size = d0.size) (i : Nat) (hi : i < dk.size) :
    (W.cell? ⟨blk, off + i * 3, none⟩ = some (.string ⟨dk[i]!.1.key.toArray⟩) ∧ W.cell? ⟨blk, off + i * 3 + 1, none⟩ = some (.string ⟨dk[i]!.1.val.toArray⟩) ∧ W.cell? ⟨blk, off + i * 3 + 2, none⟩ = some (.bool dk[i]!.1.gone)) ∧
    W.frozen? ⟨blk, off + i * 3, none⟩ = false ∧ W.frozen? ⟨blk, off + i * 3 + 1, none⟩ = false ∧ W.frozen? ⟨blk, off + i * 3 + 2, none⟩ = false := by
  have h := S.holds R.hblk R.hH hs
  have h0 := HoldsK.cell h hi (c := 0) (by omega)
  have h1 := HoldsK.cell h hi (c := 1) (by omega)
  have h2 := HoldsK.cell h hi (c := 2) (by omega)
  exact ⟨⟨h0.1, h1.1, h2.1⟩, h0.2, h1.2, h2.2⟩

/-- Two elements exchanged, cell by cell. -/
theorem swapped3 {w0 W : World} {blk off : Nat} {d0 dk : Array El} (S : SWK encE 3 w0 blk off dk W) (R : RowK encE 3 w0 blk off d0) (i j : Nat) (hi : i < dk.size) (hj : j < dk.size) :
    SWK encE 3 w0 blk off (swp dk i j) (((((((W.setCell ⟨blk, off + i * 3, none⟩ (.string ⟨dk[j]!.1.key.toArray⟩)).setCell ⟨blk, off + i * 3 + 1, none⟩ (.string ⟨dk[j]!.1.val.toArray⟩)).setCell ⟨blk, off + i * 3 + 2, none⟩ (.bool dk[j]!.1.gone)).setCell
      ⟨blk, off + j * 3, none⟩ (.string ⟨dk[i]!.1.key.toArray⟩)).setCell ⟨blk, off + j * 3 + 1, none⟩ (.string ⟨dk[i]!.1.val.toArray⟩)).setCell ⟨blk, off + j * 3 + 2, none⟩ (.bool dk[i]!.1.gone)).drew) :=
  (S.swap R.hk R.hblk i j hi hj).drew

set_option maxHeartbeats 1000000 in
set_option maxRecDepth 100000 in
theorem swapRange_any (fv : Value) (blk off cap a b n : Nat) (d0 d : Array El) (w0 w : World) (R : RowK encE 3 w0 blk off d0) (hs : d0.size = d.size) (S : SWK encE 3 w0 blk off d w) (hab : a + n ≤ b) (hb : b + n ≤ d.size) (hsz : d.size < 4611686018427387904) :
    Calls Tryz.prog 130 #[.slice (some ⟨blk, off, none⟩) d.size cap, .int .i64 a, .int .i64 b, .int .i64 n, fv] w fun e w' => e = .returned (.tuple #[]) ∧ SWK encE 3 w0 blk off (swapR d a b n) w' := by
  have S0 : Aside (SWK encE 3 w0 blk off d w) := S
  clear S
  have mixed := mixed
  go_enter Tryz.func130, Tryz.ntmps130
  go_wp2
  go_loopg [10] n (fun kx s10 wr => ∃ i : Nat, s10 = .int .i64 i ∧ i ≤ n ∧ n - i ≤ kx ∧ Aside (SWK encE 3 w0 blk off (swapR d a b i) wr))
  case atStart => exact ⟨0, rfl, by omega, by omega, S0⟩
  case round =>
    clear S0
    obtain ⟨i, rfl, hin, hkx, S1⟩ := hrel
    have hds := swapR_size d a b i
    by_cases hlt : i < n
    · have hltI : (i : Int) < n := by omega
      go_wp2_with fail
      have e1 : ((a : Int) + i).toNat = a + i := by omega
      have e2 : ((b : Int) + i).toNat = b + i := by omega
      have p1 : (0 : Int) ≤ (a : Int) + i := by omega
      have p2 : (0 : Int) ≤ (b : Int) + i := by omega
      have b1 : (a : Int) + i < (d.size : Int) := by omega
      have b2 : (b : Int) + i < (d.size : Int) := by omega
      have r1 : IntKind.i64.wrap ((a : Int) + i) = (a : Int) + i := by rw [IntKind.wrap_i64]; omega
      have r2 : IntKind.i64.wrap ((b : Int) + i) = (b : Int) + i := by rw [IntKind.wrap_i64]; omega
      have S2 := swapped3 S1.out R (a + i) (b + i) (by omega) (by omega)
      obtain ⟨⟨c0, c1, c2⟩, z0, z1, z2⟩ := cells3 S1.out R (by omega) (a + i) (by omega)
      obtain ⟨⟨d0, d1, d2⟩, y0, y1, y2⟩ := cells3 S1.out R (by omega) (b + i) (by omega)
      have hoo : off + (a + i) * 3 + 2 < off + (b + i) * 3 := by omega
      generalize (swapR d a b i)[a + i]! = X at S2 c0 c1 c2
      generalize (swapR d a b i)[b + i]! = Y at S2 d0 d1 d2
      generalize hP : off + (a + i) * 3 = o1 at *
      generalize hQ : off + (b + i) * 3 = o2 at *
      have S3 : Aside _ := S2
      clear S1 S2 hds
      go_big_region_o
      go_wp2
      go_roundg (n - (i + 1))
      case measure => omega
      case rel => exact ⟨i + 1, by go_num, by omega, Nat.le_refl _, S3⟩
    · obtain rfl : i = n := by omega
      go_wp2
      go_end0
      exact ⟨rfl, S1.out⟩

set_option maxHeartbeats 1000000 in
set_option maxRecDepth 100000 in
theorem rotate_any (fv : Value) (blk off cap a m b : Nat) (d0 d : Array El) (w0 w : World) (R : RowK encE 3 w0 blk off d0) (hs : d0.size = d.size) (S : SWK encE 3 w0 blk off d w) (ham : a < m) (hmb : m < b) (hb : b ≤ d.size) (hsz : d.size < 4611686018427387904) :
    Calls Tryz.prog 124 #[.slice (some ⟨blk, off, none⟩) d.size cap, .int .i64 a, .int .i64 m, .int .i64 b, fv] w fun e w' => e = .returned (.tuple #[]) ∧ SWK encE 3 w0 blk off (rotF d a m b) w' := by
  have S0 : Aside (SWK encE 3 w0 blk off d w) := S
  have HR : Aside (RowK encE 3 w0 blk off d0) := R
  clear S R
  go_enter Tryz.func124, Tryz.ntmps124
  go_wp2
  go_loopg [10, 11] (b - a) (fun kx s10 s11 wr => ∃ (i j : Nat) (x : Array El), s10 = .int .i64 i ∧ s11 = .int .i64 j ∧ 0 < i ∧ 0 < j ∧ i ≤ m ∧ m + j ≤ d.size ∧ i + j ≤ kx ∧ x.size = d.size ∧ rotF x (m - i) m (m + j) = rotF d a m b ∧ Aside (SWK encE 3 w0 blk off x wr))
  case atStart => exact ⟨m - a, b - m, d, by go_num, by go_num, by omega, by omega, by omega, by omega, by omega, rfl, by rw [show m - (m - a) = a by omega, show m + (b - m) = b by omega], S0⟩
  case round =>
    clear S0
    obtain ⟨i, j, x, rfl, rfl, hi0, hj0, him, hjm, hkx, hxs, hrot, S1⟩ := hrel
    have HRot := Lib.hid hrot
    clear hrot
    rcases Nat.lt_trichotomy i j with hlt | hij | hlt
    · have hne : ¬ (i : Int) = (j : Int) := by omega
      have hgt : ¬ (j : Int) < (i : Int) := by omega
      have hc := swapRange_any fv blk off cap (m - i) (m + j - i) i d0 x w0 wr HR.out (by omega) S1.out (by omega) (by omega) (by omega)
      rw [hxs, show ((m - i : Nat) : Int) = (m : Int) - i by omega, show ((m + j - i : Nat) : Int) = (m : Int) + j - i by omega] at hc
      have HC := Lib.hid hc
      clear hc
      go_wp2_with fail
      refine HC.out.mono ?_
      rintro e w2 ⟨rfl, S2⟩
      have S3 : Aside _ := S2
      clear S2 HC S1
      go_wp2
      go_roundg (i + (j - i))
      case measure => omega
      case rel => exact ⟨i, j - i, swapR x (m - i) (m + j - i) i, rfl, by go_num, hi0, by omega, him, by omega, Nat.le_refl _, by rw [swapR_size]; exact hxs, by rw [← HRot.out, ← rot_second x i j m him hlt (by omega), show m + (j - i) = m + j - i by omega], S3⟩
    · have heq : (i : Int) = (j : Int) := by omega
      have hc := swapRange_any fv blk off cap (m - i) m i d0 x w0 wr HR.out (by omega) S1.out (by omega) (by omega) (by omega)
      rw [hxs, show ((m - i : Nat) : Int) = (m : Int) - i by omega] at hc
      subst hij
      have HC := Lib.hid hc
      clear hc
      go_wp2_with fail
      refine HC.out.mono ?_
      rintro e w2 ⟨rfl, S2⟩
      have S3 : Aside _ := S2
      clear S2 HC S1
      go_wp2
      go_end0
      refine ⟨rfl, ?_⟩
      rw [← HRot.out, ← rot_last x i m him (by omega)]
      exact S3.out
    · have hne : ¬ (i : Int) = (j : Int) := by omega
      have hgt : (j : Int) < (i : Int) := by omega
      have hc := swapRange_any fv blk off cap (m - i) m j d0 x w0 wr HR.out (by omega) S1.out (by omega) (by omega) (by omega)
      rw [hxs, show ((m - i : Nat) : Int) = (m : Int) - i by omega] at hc
      have HC := Lib.hid hc
      clear hc
      go_wp2_with fail
      refine HC.out.mono ?_
      rintro e w2 ⟨rfl, S2⟩
      have S3 : Aside _ := S2
      clear S2 HC S1
      go_wp2
      go_roundg (i - j + j)
      case measure => omega
      case rel => exact ⟨i - j, j, swapR x (m - i) m j, by go_num, rfl, by omega, hj0, by omega, hjm, Nat.le_refl _, by rw [swapR_size]; exact hxs, by rw [← HRot.out, ← rot_first x i j m him hlt (by omega), show m - (i - j) = m - i + j by omega], S3⟩
end Go.Proofs.YtmpklljiddggpaaGreatDoor
