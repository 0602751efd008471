/-
  The walks of cmp.Compare at strings and of the closures that compare changes by their keys. Conditions: none.
-/
import Derived.Test.YtmpklljiddggpaaGreatDoorQJsW1
import Derived.Sort.Walk0
namespace Go.Proofs.YtmpklljiddggpaaGreatDoor
open Go.Shelf Go.RowKit Go.Lib Go.Sort

theorem isNaN_str (x : List UInt8) (w : World) : Calls Tryz.prog 68 #[.string ⟨x.toArray⟩] w fun e w' => e = .returned (.bool false) ∧ w' = w := by
  go_enter Tryz.func68, Tryz.ntmps68
  go_wp2
  go_ret
  exact ⟨by simp, rfl⟩

set_option maxHeartbeats 1000000 in
theorem compare_str (x y : List UInt8) (w : World) : Calls Tryz.prog 42 #[.string ⟨x.toArray⟩, .string ⟨y.toArray⟩] w fun e w' => e = .returned (.int .i64 (cmpK x y)) ∧ w' = w := by
  go_enter Tryz.func42, Tryz.ntmps42
  go_wp2_with (go_at_call 68; refine (isNaN_str _ _).mono ?_; rintro e w' ⟨rfl, rfl⟩)
  · rename_i h
    rw [bytesLess_eq, decide_eq_true_eq] at h
    go_ret
    exact ⟨ret_int (by unfold cmpK; rw [if_pos h]), rfl⟩
  · rename_i h1 _ _ h2
    rw [bytesLess_eq, decide_eq_false_iff_not] at h1
    go_ret
    refine ⟨ret_int ?_, rfl⟩
    have h3 : y < x := by
      by_cases h : y < x
      · exact h
      · have := lt_tot h1 h
        subst this
        simp at h2
    unfold cmpK
    rw [if_neg h1, if_pos h3]
  · rename_i h1 h2
    go_ret
    refine ⟨ret_int ?_, rfl⟩
    have : x = y := by simpa using h2
    subst this
    exact (cmpK_zero.2 rfl).symm

set_option maxHeartbeats 1000000 in
theorem closure_keys (x y : Chg) (W : World) : Calls Tryz.prog 72 #[.agg (encC x).toArray, .agg (encC y).toArray] W fun e w' => e = .returned (.int .i64 (cmpK x.key y.key)) ∧ ∃ q os', w' = grow (W.drewN q) os' := by
  have hcon := fun W' => compare_str x.key y.key W'
  generalize cmpK x.key y.key = r at hcon ⊢
  simp only [encC]
  go_enter Tryz.func72, Tryz.ntmps72
  go_wp2_with (go_at_call 42; refine (hcon _).mono ?_; rintro e w' ⟨rfl, rfl⟩)
  go_ret
  exact ⟨rfl, 0, _, by rw [alloc_eq_grow, alloc_eq_grow, grow_grow]; rfl⟩
theorem cmpLays (blk off size : Nat) (w : World) : CmpLays Tryz.prog 72 #[] encE 3 cfE blk off size w := fun _ _ _ _ x y => closure_keys x.1 y.1 _
end Go.Proofs.YtmpklljiddggpaaGreatDoor

/-
  The walk of the library's symMergeCmpFunc at changes. Conditions: each theorem's own premises.
-/
namespace Go.Proofs.YtmpklljiddggpaaGreatDoor
open Go.Shelf Go.RowKit Go.Lib Go.Sort

/-- The comparison, as a value. -/
def cmpV : Value := .func (.func 72) #[] #[]

/-- The facts of a test 'cmp(data[i], data[j]) < 0'. -/
theorem test3 {w0 W : World} {blk off : Nat} {d0 dk : Array El} (S : SWK encE 3 w0 blk off dk W) (R : RowK encE 3 w0 blk off d0) (hs : dk.size = d0.size) (i : Nat) (hi : i < dk.size) :
    (∀ n os, (grow (W.drewN n) os).cell? ⟨blk, off + i * 3, none⟩ = some (.string ⟨dk[i]!.1.key.toArray⟩)) ∧ (∀ n os, (grow (W.drewN n) os).cell? ⟨blk, off + i * 3 + 1, none⟩ = some (.string ⟨dk[i]!.1.val.toArray⟩)) ∧ (∀ n os, (grow (W.drewN n) os).cell? ⟨blk, off + i * 3 + 2, none⟩ = some (.bool dk[i]!.1.gone)) :=
  ⟨fun n os => (cells3 (S.grown n os) R hs i hi).1.1, fun n os => (cells3 (S.grown n os) R hs i hi).1.2.1, fun n os => (cells3 (S.grown n os) R hs i hi).1.2.2⟩
theorem test_call (x y : El) (W : World) (n : Nat) (os : Array Obj) : Calls Tryz.prog 72 #[.agg #[.string ⟨x.1.key.toArray⟩, .string ⟨x.1.val.toArray⟩, .bool x.1.gone], .agg #[.string ⟨y.1.key.toArray⟩, .string ⟨y.1.val.toArray⟩, .bool y.1.gone]] (grow (W.drewN n) os) fun e w' => e = .returned (.int .i64 (cfE x y)) ∧ ∃ q os', w' = grow ((grow (W.drewN n) os).drewN q) os' :=
  closure_keys x.1 y.1 _

/-- The part of the walk in which the first element is put into its place: what it leaves. -/
def Merged (w0 : World) (blk off : Nat) (d : Array El) (a b : Nat) (e : Ending) (w' : World) : Prop :=
  e = .returned (.tuple #[]) ∧ ∃ d' : Array El, PermIn a b d d' ∧ SortedIn ltI a b d' ∧ SWK encE 3 w0 blk off d' w'

set_option maxHeartbeats 1000000 in
set_option maxRecDepth 100000 in
theorem merge_first (blk off cap a b : Nat) (d0 d : Array El) (w0 w : World) (R : RowK encE 3 w0 blk off d0) (hs : d0.size = d.size) (S : SWK encE 3 w0 blk off d w) (hmb : a + 1 < b) (hb : b ≤ d.size) (hsz : d.size < 4611686018427387904)
    (hr : SortedIn ltI (a + 1) b d) (hx : ∀ j, a + 1 ≤ j → j < b → d[a]!.2 < d[j]!.2) :
    Calls Tryz.prog 112 #[.slice (some ⟨blk, off, none⟩) d.size cap, .int .i64 a, .int .i64 ((a : Int) + 1), .int .i64 b, cmpV] w (Merged w0 blk off d a b) := by
  have S0 : Aside (SWK encE 3 w0 blk off d w) := S
  have HR : Aside (RowK encE 3 w0 blk off d0) := R
  have HS : Aside _ := hr
  have HX : Aside _ := hx
  have mixed := mixed
  have h1 : (a : Int) + 1 - a = 1 := by omega
  clear S R hr hx
  unfold cmpV
  go_enter Tryz.func112, Tryz.ntmps112
  go_wp2
  go_loopg [10, 11, 12] (b - a) (fun kx s10 s11 s12 wr => ∃ (i j : Nat), s10 = .int .i64 i ∧ s11 = .int .i64 j ∧ a + 1 ≤ i ∧ i ≤ j ∧ j ≤ b ∧ j - i ≤ kx ∧ Aside (SWK encE 3 w0 blk off d wr) ∧ Aside (∀ k, a + 1 ≤ k → k < i → ltI d[k]! d[a]! = true) ∧ Aside (j < b → ltI d[j]! d[a]! = false))
  case atStart => exact ⟨a + 1, b, by go_num, rfl, by omega, by omega, by omega, by omega, S0, fun k h1 h2 => by omega, fun h => by omega⟩
  case round =>
    clear S0
    obtain ⟨i, j, rfl, rfl, hai, hij, hjb, hkx, S1, C1, C2⟩ := hrel
    by_cases hlt : i < j
    · have hltI : (i : Int) < j := by omega
      obtain ⟨h, hh⟩ : ∃ h : Nat, h = (i + j) / 2 := ⟨_, rfl⟩
      have hhI : ((i : Int) + j) / 2 = (h : Int) := by omega
      have hih : i ≤ h := by omega
      have hhj : h < j := by omega
      have HH := Lib.hid hh
      clear hh
      go_wp2_with fail
      obtain ⟨l0, l1, l2⟩ := test3 S1.out HR.out (by omega) h (by omega)
      obtain ⟨m0, m1, m2⟩ := test3 S1.out HR.out (by omega) a (by omega)
      have hb1 : (h : Int) < d.size := by omega
      have hb2 : (a : Int) < d.size := by omega
      have hc := test_call d[h]! d[a]! wr
      have hl := ltI_cf (HX.out h (by omega) (by omega))
      generalize hX : d[h]! = X at l0 l1 l2 hc hl
      generalize hY : d[a]! = Y at m0 m1 m2 hc hl
      have HXY := Lib.hid (And.intro hX hY)
      have HL := Lib.hid hl
      clear hX hY hl
      generalize cfE X Y = r at hc HL
      by_cases hlv : r < 0
      · go_quiet_grown ((go_at_call 72; exact Calls.grown_of (hc _ _)))
        clear l0 l1 l2 m0 m1 m2 hc
        go_wp2
        go_roundg (j - (h + 1))
        case measure => omega
        case rel =>
          have hlt' : ltI d[h]! d[a]! = true := by rw [HXY.out.1, HXY.out.2, HL.out]; exact decide_eq_true hlv
          refine ⟨h + 1, j, by go_num, rfl, by omega, by omega, hjb, Nat.le_refl _, S1.out.grown nq osq, show ∀ k, a + 1 ≤ k → k < h + 1 → ltI d[k]! d[a]! = true from fun k h1 h2 => ?_, C2⟩
          rcases Nat.lt_or_ge k h with h3 | h3
          · cases hq : ltI d[k]! d[a]! with
            | true => rfl
            | false =>
              have := swoI.ntrans _ _ _ (HS.out k h h1 h3 (by omega)) hq
              rw [hlt'] at this
              cases this
          · obtain rfl : k = h := by omega
            exact hlt'
      · go_quiet_grown ((go_at_call 72; exact Calls.grown_of (hc _ _)))
        clear l0 l1 l2 m0 m1 m2 hc
        go_wp2
        go_roundg (h - i)
        case measure => omega
        case rel => exact ⟨i, h, rfl, rfl, hai, by omega, by omega, Nat.le_refl _, S1.out.grown nq osq, C1, show h < b → ltI d[h]! d[a]! = false from fun _ => by rw [HXY.out.1, HXY.out.2, HL.out]; exact decide_eq_false (by omega)⟩
    · obtain rfl : i = j := by omega
      have hltI : ¬ (i : Int) < i := by omega
      go_wp2
      go_loopg [13] (b - a) (fun kx s13 wr => ∃ (k : Nat), s13 = .int .i64 k ∧ a ≤ k ∧ k < i ∧ i - k ≤ kx ∧ Aside (SWK encE 3 w0 blk off (rotF d a (a + 1) (k + 1)) wr))
      case atStart => exact ⟨a, rfl, by omega, by omega, by omega, by rw [rot_none d a (a + 1) (a + 1) (by omega) (by omega) (by omega) (.inr rfl)]; exact S1⟩
      case round =>
        clear S1
        obtain ⟨k, rfl, hak, hki, hkx, S1⟩ := hrel
        have hds := rotF_size d a (a + 1) (k + 1)
        by_cases hlt : k + 1 < i
        · have hltI : (k : Int) < (i : Int) - 1 := by omega
          go_wp2_with fail
          have e1 : ((k : Int) + 1).toNat = k + 1 := by omega
          have p1 : (0 : Int) ≤ (k : Int) + 1 := by omega
          have b1 : (k : Int) + 1 < (d.size : Int) := by omega
          have b2 : (k : Int) < (d.size : Int) := by omega
          have r1 : IntKind.i64.wrap ((k : Int) + 1) = (k : Int) + 1 := by rw [IntKind.wrap_i64]; omega
          have S2 := swapped3 S1.out HR.out k (k + 1) (by omega) (by omega)
          rw [rot_up d a k hak (by omega)] at S2
          obtain ⟨⟨c0, c1, c2⟩, z0, z1, z2⟩ := cells3 S1.out HR.out (by omega) k (by omega)
          obtain ⟨⟨d0, d1, d2⟩, y0, y1, y2⟩ := cells3 S1.out HR.out (by omega) (k + 1) (by omega)
          have hoo : off + k * 3 + 2 < off + (k + 1) * 3 := by omega
          generalize (rotF d a (a + 1) (k + 1))[k]! = X at S2 c0 c1 c2
          generalize (rotF d a (a + 1) (k + 1))[k + 1]! = Y at S2 d0 d1 d2
          generalize hP : off + k * 3 = o1 at *
          generalize hQ : off + (k + 1) * 3 = o2 at *
          have S3 : Aside _ := S2
          clear S1 S2 hds
          go_big_region_o
          go_wp2
          go_roundg (i - (k + 1))
          case measure => omega
          case rel => exact ⟨k + 1, by go_num, by omega, hlt, Nat.le_refl _, S3⟩
        · obtain rfl : i = k + 1 := by omega
          have hltI : ¬ (k : Int) < ((k + 1 : Nat) : Int) - 1 := by omega
          go_wp2
          go_end0
          exact ⟨rfl, _, permIn_mono _ _ _ _ _ _ (Nat.le_refl _) hjb hb (rot_perm d a (a + 1) (k + 1) (by omega) (by omega) (by omega)), rot_in_first swoI (by omega) hjb hb HS.out C1.out C2.out, S1.out⟩
end Go.Proofs.YtmpklljiddggpaaGreatDoor

/-
  The walk of the library's symMergeCmpFunc at changes: the last element put into its place. Conditions: each theorem's own premises.
-/
namespace Go.Proofs.YtmpklljiddggpaaGreatDoor
open Go.Shelf Go.RowKit Go.Lib Go.Sort

set_option maxHeartbeats 1000000 in
set_option maxRecDepth 100000 in
theorem merge_last (blk off cap a m : Nat) (d0 d : Array El) (w0 w : World) (R : RowK encE 3 w0 blk off d0) (hs : d0.size = d.size) (S : SWK encE 3 w0 blk off d w) (ham : a + 1 < m) (hb : m + 1 ≤ d.size) (hsz : d.size < 4611686018427387904)
    (hl : SortedIn ltI a m d) (hx : ∀ i, a ≤ i → i < m → d[i]!.2 < d[m]!.2) :
    Calls Tryz.prog 112 #[.slice (some ⟨blk, off, none⟩) d.size cap, .int .i64 a, .int .i64 m, .int .i64 ((m : Int) + 1), cmpV] w (Merged w0 blk off d a (m + 1)) := by
  have S0 : Aside (SWK encE 3 w0 blk off d w) := S
  have HR : Aside (RowK encE 3 w0 blk off d0) := R
  have HS : Aside _ := hl
  have HX : Aside _ := hx
  have mixed := mixed
  have h1 : ((m : Int) - a == 1) = false := by rw [beq_eq_false_iff_ne]; omega
  have h2 : (m : Int) + 1 - m = 1 := by omega
  clear S R hl hx
  unfold cmpV
  go_enter Tryz.func112, Tryz.ntmps112
  go_wp2
  go_loopg [14, 15, 16] (m + 1 - a) (fun kx s14 s15 s16 wr => ∃ (i j : Nat), s14 = .int .i64 i ∧ s15 = .int .i64 j ∧ a ≤ i ∧ i ≤ j ∧ j ≤ m ∧ j - i ≤ kx ∧ Aside (SWK encE 3 w0 blk off d wr) ∧ Aside (a < i → ltI d[m]! d[i - 1]! = false) ∧ Aside (∀ k, j ≤ k → k < m → ltI d[m]! d[k]! = true))
  case atStart => exact ⟨a, m, rfl, rfl, by omega, by omega, by omega, by omega, S0, fun h => by omega, fun k h1 h2 => by omega⟩
  case round =>
    clear S0
    obtain ⟨i, j, rfl, rfl, hai, hij, hjb, hkx, S1, C1, C2⟩ := hrel
    by_cases hlt : i < j
    · have hltI : (i : Int) < j := by omega
      obtain ⟨h, hh⟩ : ∃ h : Nat, h = (i + j) / 2 := ⟨_, rfl⟩
      have hhI : ((i : Int) + j) / 2 = (h : Int) := by omega
      have hih : i ≤ h := by omega
      have hhj : h < j := by omega
      have HH := Lib.hid hh
      clear hh
      go_wp2_with fail
      obtain ⟨l0, l1, l2⟩ := test3 S1.out HR.out (by omega) m (by omega)
      obtain ⟨m0, m1, m2⟩ := test3 S1.out HR.out (by omega) h (by omega)
      have hb1 : (h : Int) < d.size := by omega
      have hb2 : (m : Int) < d.size := by omega
      have hc := test_call d[m]! d[h]! wr
      have hl := ltI_cf (HX.out h (by omega) (by omega))
      generalize hX : d[m]! = X at l0 l1 l2 hc hl
      generalize hY : d[h]! = Y at m0 m1 m2 hc hl
      have HXY := Lib.hid (And.intro hX hY)
      have HL := Lib.hid hl
      clear hX hY hl
      generalize cfE X Y = r at hc HL
      by_cases hlv : r < 0
      · go_quiet_grown ((go_at_call 72; exact Calls.grown_of (hc _ _)))
        clear l0 l1 l2 m0 m1 m2 hc
        go_wp2
        go_roundg (h - i)
        case measure => omega
        case rel =>
          have hlt' : ltI d[m]! d[h]! = true := by rw [HXY.out.1, HXY.out.2, HL.out]; exact decide_eq_true hlv
          refine ⟨i, h, rfl, rfl, hai, by omega, by omega, Nat.le_refl _, S1.out.grown nq osq, C1, show ∀ k, h ≤ k → k < m → ltI d[m]! d[k]! = true from fun k h1 h2 => ?_⟩
          rcases Nat.lt_or_ge h k with h3 | h3
          · cases hq : ltI d[m]! d[k]! with
            | true => rfl
            | false =>
              have := swoI.ntrans _ _ _ hq (HS.out h k (by omega) h3 h2)
              rw [hlt'] at this
              cases this
          · obtain rfl : k = h := by omega
            exact hlt'
      · go_quiet_grown ((go_at_call 72; exact Calls.grown_of (hc _ _)))
        clear l0 l1 l2 m0 m1 m2 hc
        go_wp2
        go_roundg (j - (h + 1))
        case measure => omega
        case rel => exact ⟨h + 1, j, by go_num, rfl, by omega, by omega, by omega, Nat.le_refl _, S1.out.grown nq osq, show a < h + 1 → ltI d[m]! d[h + 1 - 1]! = false from fun _ => by rw [Nat.add_sub_cancel, HXY.out.1, HXY.out.2, HL.out]; exact decide_eq_false (by omega), C2⟩
    · obtain rfl : i = j := by omega
      have hltI : ¬ (i : Int) < i := by omega
      go_wp2
      go_loopg [17] (m - i) (fun kx s17 wr => ∃ (k : Nat), s17 = .int .i64 k ∧ i ≤ k ∧ k ≤ m ∧ k - i ≤ kx ∧ Aside (SWK encE 3 w0 blk off (rotF d k m (m + 1)) wr))
      case atStart => exact ⟨m, rfl, by omega, by omega, by omega, by rw [rot_none d m m (m + 1) (by omega) (by omega) (by omega) (.inl rfl)]; exact S1⟩
      case round =>
        clear S1
        obtain ⟨k', rfl, hak, hki, hkx, S1⟩ := hrel
        by_cases hlt : i < k'
        · obtain ⟨k, rfl⟩ : ∃ k, k' = k + 1 := ⟨k' - 1, by omega⟩
          have hds := rotF_size d (k + 1) m (m + 1)
          have hltI : (i : Int) < (k : Int) + 1 := by omega
          go_wp2_with fail
          have e1 : ((k : Int) + 1).toNat = k + 1 := by omega
          have p1 : (0 : Int) ≤ (k : Int) + 1 := by omega
          have b1 : (k : Int) + 1 < (d.size : Int) := by omega
          have b2 : (k : Int) < (d.size : Int) := by omega
          have r1 : IntKind.i64.wrap (k : Int) = (k : Int) := by rw [IntKind.wrap_i64]; omega
          have r2 : (k : Int) + 1 - 1 = (k : Int) := by omega
          have S2 := swapped3 S1.out HR.out (k + 1) k (by omega) (by omega)
          rw [rot_down d k m (by omega) (by omega)] at S2
          obtain ⟨⟨c0, c1, c2⟩, z0, z1, z2⟩ := cells3 S1.out HR.out (by omega) k (by omega)
          obtain ⟨⟨d0, d1, d2⟩, y0, y1, y2⟩ := cells3 S1.out HR.out (by omega) (k + 1) (by omega)
          have hoo : off + k * 3 + 2 < off + (k + 1) * 3 := by omega
          generalize (rotF d (k + 1) m (m + 1))[k]! = X at S2 c0 c1 c2
          generalize (rotF d (k + 1) m (m + 1))[k + 1]! = Y at S2 d0 d1 d2
          generalize hP : off + k * 3 = o1 at *
          generalize hQ : off + (k + 1) * 3 = o2 at *
          have S3 : Aside _ := S2
          clear S1 S2 hds
          go_big_region_o
          go_wp2
          go_roundg (k - i)
          case measure => omega
          case rel => exact ⟨k, by go_num, by omega, by omega, Nat.le_refl _, S3⟩
        · obtain rfl : i = k' := by omega
          have hltI : ¬ (i : Int) < i := by omega
          go_wp2
          go_end0
          exact ⟨rfl, _, permIn_mono _ _ _ _ _ _ hai (Nat.le_refl _) hb (rot_perm d i m (m + 1) (by omega) (by omega) (by omega)), rot_in_last swoI hai (by omega) hb HS.out C1.out C2.out, S1.out⟩
end Go.Proofs.YtmpklljiddggpaaGreatDoor
