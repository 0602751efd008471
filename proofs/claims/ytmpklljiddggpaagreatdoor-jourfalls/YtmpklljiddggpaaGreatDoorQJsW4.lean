/-
  The walk of the library's symMergeCmpFunc at changes. Conditions: each theorem's own premises.
-/
import Derived.Test.YtmpklljiddggpaaGreatDoorQJsC
import Derived.Deep.DeepCutAuto
namespace Go.Proofs.YtmpklljiddggpaaGreatDoor
open Go.Shelf Go.RowKit Go.Lib Go.Sort

/-- Two sorted parts side by side, the first one's elements come from ahead of the second one's. -/
structure Two (d : Array El) (a m b : Nat) : Prop where
  l : SortedIn ltI a m d
  r : SortedIn ltI m b d
  x : ∀ i j, a ≤ i → i < m → m ≤ j → j < b → d[i]!.2 < d[j]!.2

/-- What is known behind the search. -/
structure Parted (d : Array El) (a m b s e : Nat) : Prop where
  c1 : a < s → e < b → ltI d[e]! d[s - 1]! = false
  c2 : s < m → m < e → ltI d[s]! d[e - 1]! = false

theorem Two.left {d : Array El} {a m b s e mid : Nat} (h : Two d a m b) (h1 : a ≤ s) (h2 : s ≤ m) (h3 : m ≤ e) (h4 : e ≤ b) (h5 : b ≤ d.size) (hm : mid = s + (e - m)) (hp : Parted d a m b s e) : Two (rotF d s m e) a s mid := by
  have k := rot_halves swoI h1 h2 h3 h4 h5 hm h.l h.r hp.c1 hp.c2
  refine ⟨k.1, k.2.1, fun i j i1 i2 j1 j2 => ?_⟩
  rw [rotF_get d s m e h2 h3 (by omega), rotF_get d s m e h2 h3 (by omega), if_neg (by omega), if_neg (by omega), if_pos (by omega)]
  exact h.x _ _ i1 (by omega) (by omega) (by omega)
theorem Two.right {d : Array El} {a m b s e mid : Nat} (h : Two d a m b) (h1 : a ≤ s) (h2 : s ≤ m) (h3 : m ≤ e) (h4 : e ≤ b) (h5 : b ≤ d.size) (hm : mid = s + (e - m)) (hp : Parted d a m b s e) : Two (rotF d s m e) mid e b := by
  have k := rot_halves swoI h1 h2 h3 h4 h5 hm h.l h.r hp.c1 hp.c2
  refine ⟨k.2.2.1, k.2.2.2.1, fun i j i1 i2 j1 j2 => ?_⟩
  rw [rotF_get d s m e h2 h3 (by omega), rotF_get d s m e h2 h3 (by omega), if_neg (c := s ≤ i ∧ i < s + (e - m)) (by omega), if_pos (c := s + (e - m) ≤ i ∧ i < e) (by omega), if_neg (by omega), if_neg (by omega)]
  exact h.x _ _ (by omega) (by omega) (by omega) j2
theorem Two.keep {d d' : Array El} {a m b : Nat} (h : Two d a m b) (hk : ∀ i, a ≤ i → i < b → d'[i]! = d[i]!) (hm : a ≤ m) (hb : m ≤ b) : Two d' a m b :=
  ⟨fun i j x y z => by rw [hk i x (by omega), hk j (by omega) (by omega)]; exact h.l i j x y z, fun i j x y z => by rw [hk i (by omega) (by omega), hk j (by omega) z]; exact h.r i j x y z,
   fun i j x y z u => by rw [hk i x (by omega), hk j (by omega) u]; exact h.x i j x y z u⟩
theorem Two.whole {d : Array El} {a m b : Nat} (h : Two d a m b) (e : ¬ (a < m ∧ m < b)) (hm : a ≤ m) (hb : m ≤ b) : SortedIn ltI a b d := by
  rcases Nat.eq_or_lt_of_le hm with rfl | h1
  · exact h.r
  · obtain rfl : m = b := by omega
    exact h.l

/-- What the first half of the recursion leaves. -/
def Half (w0 : World) (blk off : Nat) (x : Array El) (a b : Nat) (wx : World) : Prop := ∃ y : Array El, PermIn a b x y ∧ SortedIn ltI a b y ∧ SWK encE 3 w0 blk off y wx

set_option maxHeartbeats 4000000 in
set_option maxRecDepth 100000 in
theorem merge_rest (blk off cap a m b : Nat) (d0 d : Array El) (w0 w : World) (R : RowK encE 3 w0 blk off d0) (hs : d0.size = d.size) (S : SWK encE 3 w0 blk off d w) (ham : a + 1 < m) (hmb : m + 1 < b) (hb : b ≤ d.size) (hsz : d.size < 4611686018427387904) (hT : Two d a m b)
    (ih : ∀ (a' m' b' : Nat) (d' : Array El) (w' : World), b' - a' < b - a → a' < m' → m' < b' → b' ≤ d'.size → d0.size = d'.size → SWK encE 3 w0 blk off d' w' → Two d' a' m' b' →
      Calls Tryz.prog 112 #[.slice (some ⟨blk, off, none⟩) d'.size cap, .int .i64 a', .int .i64 m', .int .i64 b', cmpV] w' (Merged w0 blk off d' a' b')) :
    Calls Tryz.prog 112 #[.slice (some ⟨blk, off, none⟩) d.size cap, .int .i64 a, .int .i64 m, .int .i64 b, cmpV] w (Merged w0 blk off d a b) := by
  have S0 : Aside (SWK encE 3 w0 blk off d w) := S
  have HR : Aside (RowK encE 3 w0 blk off d0) := R
  have HT : Aside _ := hT
  have HI : Aside _ := ih
  have mixed := mixed
  have h1 : ((m : Int) - a == 1) = false := by rw [beq_eq_false_iff_ne]; omega
  have h2 : ((b : Int) - m == 1) = false := by rw [beq_eq_false_iff_ne]; omega
  obtain ⟨mid, hmid⟩ : ∃ mid : Nat, mid = (a + b) / 2 := ⟨_, rfl⟩
  have hmI : ((a : Int) + b) / 2 = (mid : Int) := by omega
  have hm1 : a + b ≤ 2 * mid + 1 := by omega
  have hm2 : 2 * mid ≤ a + b := by omega
  clear S R hT ih hmid
  unfold cmpV at *
  go_enter Tryz.func112, Tryz.ntmps112
  go_upto_if 140 with fail
  go_cut [20, 21] (fun s20 s21 wx => ∃ lo hi : Nat, s20 = .int .i64 lo ∧ s21 = .int .i64 hi ∧ (mid < m ∧ lo + b = mid + m ∧ hi = mid ∨ m ≤ mid ∧ lo = a ∧ hi = m) ∧ wx = w)
  case first =>
    as_aux_lemma =>
      by_cases hc : mid < m
      · have hcI : (mid : Int) < m := by omega
        go_wp2
        go_meet
        case rel => exact ⟨mid + m - b, mid, by go_num, rfl, .inl ⟨hc, by omega, rfl⟩, rfl⟩
      · have hcI : ¬ (mid : Int) < m := by omega
        go_wp2
        go_meet
        case rel => exact ⟨a, m, rfl, rfl, .inr ⟨by omega, rfl, rfl⟩, rfl⟩
  case rest =>
    obtain ⟨lo, hi, rfl, rfl, hlh, rfl⟩ := hcut
    have hlo : a ≤ lo ∧ lo ≤ hi ∧ hi ≤ m ∧ mid + m ≤ hi + b ∧ mid + m ≤ lo + b ∧ m + hi ≤ mid + m := by omega
    obtain ⟨p, hp⟩ : ∃ p : Nat, p + 1 = mid + m := ⟨mid + m - 1, by omega⟩
    have hpI : (mid : Int) + m - 1 = (p : Int) := by omega
    have HLH := Lib.hid hlh
    clear hlh
    go_wp2
    go_loopg [20, 21, 23] (hi - lo) (fun kx s20 s21 s23 wr => ∃ (i j : Nat), s20 = .int .i64 i ∧ s21 = .int .i64 j ∧ lo ≤ i ∧ i ≤ j ∧ j ≤ hi ∧ j - i ≤ kx ∧ Aside (SWK encE 3 w0 blk off d wr) ∧ Aside (lo < i → ltI d[p + 1 - i]! d[i - 1]! = false) ∧ Aside (j < hi → ltI d[j]! d[p - j]! = false))
    case atStart => exact ⟨lo, hi, rfl, rfl, Nat.le_refl _, by omega, Nat.le_refl _, by omega, S0, fun h => by omega, fun h => by omega⟩
    case round =>
      clear S0
      obtain ⟨i, j, rfl, rfl, hai, hij, hjb, hkx, S1, C1, C2⟩ := hrel
      by_cases hlt : i < j
      · have hltI : (i : Int) < j := by omega
        obtain ⟨h, hh⟩ : ∃ h : Nat, h = (i + j) / 2 := ⟨_, rfl⟩
        have hhI : ((i : Int) + j) / 2 = (h : Int) := by omega
        have hih : i ≤ h := by omega
        have hhj : h < j := by omega
        obtain ⟨q, hq⟩ : ∃ q : Nat, q + h = p := ⟨p - h, by omega⟩
        have hqI : (p : Int) - h = (q : Int) := by omega
        have hq1 : m ≤ q ∧ q < b := by omega
        have hqw : IntKind.i64.wrap (q : Int) = (q : Int) := by rw [IntKind.wrap_i64]; omega
        have HQ := Lib.hid hq
        clear hq
        have HH := Lib.hid hh
        clear hh
        go_wp2_with fail
        obtain ⟨l0, l1, l2⟩ := test3 S1.out HR.out (by omega) q (by omega)
        obtain ⟨m0, m1, m2⟩ := test3 S1.out HR.out (by omega) h (by omega)
        have hb1 : (h : Int) < d.size := by omega
        have hb2 : (q : Int) < d.size := by omega
        have hc := test_call d[q]! d[h]! wr
        have hl := ltI_cf (HT.out.x h q (by omega) (by omega) hq1.1 hq1.2)
        generalize hX : d[q]! = X at l0 l1 l2 hc hl
        generalize hY : d[h]! = Y at m0 m1 m2 hc hl
        have HXY := Lib.hid (And.intro hX hY)
        have HL := Lib.hid hl
        clear hX hY hl
        generalize cfE X Y = r at hc HL
        by_cases hlv : r < 0
        · go_quiet_grown ((go_at_call 72; exact Calls.grown_of (hc _ _)))
          clear l0 l1 l2 m0 m1 m2 hc
          go_wp2
          go_roundg (h - i)
          case measure => omega
          case rel =>
            have hlt' : ltI d[q]! d[h]! = true := by rw [HXY.out.1, HXY.out.2, HL.out]; exact decide_eq_true hlv
            exact ⟨i, h, rfl, rfl, hai, by omega, by omega, Nat.le_refl _, S1.out.grown nq osq, C1, show h < hi → ltI d[h]! d[p - h]! = false from fun _ => by rw [show p - h = q by have := HQ.out; omega]; exact swoI.asymmA hlt'⟩
        · go_quiet_grown ((go_at_call 72; exact Calls.grown_of (hc _ _)))
          clear l0 l1 l2 m0 m1 m2 hc
          go_wp2
          go_roundg (j - (h + 1))
          case measure => omega
          case rel => exact ⟨h + 1, j, by go_num, rfl, by omega, by omega, by omega, Nat.le_refl _, S1.out.grown nq osq, show lo < h + 1 → ltI d[p + 1 - (h + 1)]! d[h + 1 - 1]! = false from fun _ => by rw [Nat.add_sub_cancel, show p + 1 - (h + 1) = q by have := HQ.out; omega, HXY.out.1, HXY.out.2, HL.out]; exact decide_eq_false (by omega), C2⟩
      · obtain rfl : i = j := by omega
        have hltI : ¬ (i : Int) < i := by omega
        obtain ⟨e, he⟩ : ∃ e : Nat, e + i = mid + m := ⟨mid + m - i, by omega⟩
        have heI : (mid : Int) + m - i = (e : Int) := by omega
        have hLH := HLH.out
        have hme : m ≤ e ∧ e ≤ b := by omega
        have HMid := Lib.hid (show mid = i + (e - m) by omega)
        have PT : Aside (Parted d a m b i e) := ⟨fun k1 k2 => by
            have := C1.out (by omega)
            rwa [show p + 1 - i = e by omega] at this, fun k1 k2 => by
            have := C2.out (by omega)
            rwa [show p - i = e - 1 by omega] at this⟩
        have HP := Lib.hid (And.intro hp he)
        clear C1 C2 hLH hp he
        go_upto_region 39 with fail
        go_cut [185] (fun sv wx => sv = .bool (decide (i < m ∧ m < e)) ∧ Aside (SWK encE 3 w0 blk off d wx))
        case first =>
          as_aux_lemma =>
            by_cases hc1 : i < m
            · have hc1I : (i : Int) < m := by omega
              by_cases hc2 : m < e
              · have hc2I : (m : Int) < e := by omega
                go_wp2
                go_meet
                case rel => exact ⟨by rw [decide_eq_true (And.intro hc1 hc2)], S1⟩
              · have hc2I : ¬ (m : Int) < e := by omega
                go_wp2
                go_meet
                case rel => exact ⟨by rw [decide_eq_false fun h => hc2 h.2], S1⟩
            · have hc1I : ¬ (i : Int) < m := by omega
              go_wp2
              go_meet
              case rel => exact ⟨by rw [decide_eq_false fun h => hc1 h.1], S1⟩
        case rest =>
          clear S1
          obtain ⟨rfl, S1⟩ := hcut
          go_upto_if 185 with fail
          go_cut [] (fun wx => Aside (SWK encE 3 w0 blk off (rotF d i m e) wx))
          case first =>
            as_aux_lemma =>
              by_cases hc : i < m ∧ m < e
              · have hr := rotate_any (.func (.func 72) #[] #[]) blk off cap i m e d0 d w0 _ HR.out hs S1.out hc.1 hc.2 (by omega) hsz
                rw [decide_eq_true hc]
                have HC := Lib.hid hr
                clear hr
                go_wp2_with fail
                refine HC.out.mono ?_
                rintro e2 w2 ⟨rfl, S2⟩
                have S3 : Aside _ := S2
                clear S2 HC
                go_wp2
                go_meet
                case rel => exact S3
              · have S3 : ∀ W, Aside (SWK encE 3 w0 blk off d W) → Aside (SWK encE 3 w0 blk off (rotF d i m e) W) := fun W h => by rw [rot_none d i m e (by omega) hme.1 (by omega) (by omega)]; exact h
                rw [decide_eq_false hc]
                go_wp2
                go_meet
                case rel => exact S3 _ S1
          case rest =>
            have S4 := hcut
            clear S1 hcut
            have TL : Aside _ := HT.out.left (by omega) (by omega) hme.1 hme.2 hb HMid.out PT.out
            have TR : Aside _ := HT.out.right (by omega) (by omega) hme.1 hme.2 hb HMid.out PT.out
            have CR : Aside _ := (rot_halves swoI (by omega) (by omega) hme.1 hme.2 hb HMid.out HT.out.l HT.out.r PT.out.c1 PT.out.c2).2.2.2.2
            have PX : Aside _ := permIn_mono _ _ _ _ a b (by omega) hme.2 hb (rot_perm d i m e (by omega) hme.1 (by omega))
            have hxs := rotF_size d i m e
            have him : a ≤ i ∧ i ≤ mid ∧ mid ≤ e ∧ e ≤ b ∧ mid < b ∧ a < mid := by have := HMid.out; omega
            clear PT HT HMid HP
            generalize rotF d i m e = x at *
            go_upto_region 41 with fail
            go_cut [199] (fun sv wx => sv = .bool (decide (a < i ∧ i < mid)) ∧ Aside (SWK encE 3 w0 blk off x wx))
            case first =>
              as_aux_lemma =>
                by_cases hc1 : a < i
                · have hc1I : (a : Int) < i := by omega
                  by_cases hc2 : i < mid
                  · have hc2I : (i : Int) < mid := by omega
                    go_wp2
                    go_meet
                    case rel => exact ⟨by rw [decide_eq_true (And.intro hc1 hc2)], S4⟩
                  · have hc2I : ¬ (i : Int) < mid := by omega
                    go_wp2
                    go_meet
                    case rel => exact ⟨by rw [decide_eq_false fun h => hc2 h.2], S4⟩
                · have hc1I : ¬ (a : Int) < i := by omega
                  go_wp2
                  go_meet
                  case rel => exact ⟨by rw [decide_eq_false fun h => hc1 h.1], S4⟩
            case rest =>
              clear S4
              obtain ⟨rfl, S4⟩ := hcut
              go_upto_if 199 with fail
              go_cut [] (fun wx => Aside (Half w0 blk off x a mid wx))
              case first =>
                as_aux_lemma =>
                  by_cases hc : a < i ∧ i < mid
                  · have hr := HI.out a i mid x _ (by omega) hc.1 hc.2 (by omega) (by omega) S4.out TL.out
                    rw [hxs] at hr
                    rw [decide_eq_true hc]
                    have HC := Lib.hid hr
                    clear hr
                    go_wp2_with fail
                    refine HC.out.mono ?_
                    rintro e2 w2 ⟨rfl, S2⟩
                    have S3 : Aside (Half w0 blk off x a mid w2) := S2
                    clear S2 HC
                    go_wp2
                    go_meet
                    case rel => exact S3
                  · have S3 : ∀ W, Aside (SWK encE 3 w0 blk off x W) → Aside (Half w0 blk off x a mid W) := fun W h => ⟨x, permIn_refl _ _ _, TL.out.whole hc him.1 him.2.1, h.out⟩
                    rw [decide_eq_false hc]
                    go_wp2
                    go_meet
                    case rel => exact S3 _ S4
              case rest =>
                have S5 := hcut
                clear S4 hcut
                go_upto_region 43 with fail
                go_cut [213] (fun sv wx => sv = .bool (decide (mid < e ∧ e < b)) ∧ Aside (Half w0 blk off x a mid wx))
                case first =>
                  as_aux_lemma =>
                    by_cases hc1 : mid < e
                    · have hc1I : (mid : Int) < e := by omega
                      by_cases hc2 : e < b
                      · have hc2I : (e : Int) < b := by omega
                        go_wp2
                        go_meet
                        case rel => exact ⟨by rw [decide_eq_true (And.intro hc1 hc2)], S5⟩
                      · have hc2I : ¬ (e : Int) < b := by omega
                        go_wp2
                        go_meet
                        case rel => exact ⟨by rw [decide_eq_false fun h => hc2 h.2], S5⟩
                    · have hc1I : ¬ (mid : Int) < e := by omega
                      go_wp2
                      go_meet
                      case rel => exact ⟨by rw [decide_eq_false fun h => hc1 h.1], S5⟩
                case rest =>
                  clear S5
                  obtain ⟨rfl, S5⟩ := hcut
                  obtain ⟨y, py, sy, S6⟩ := S5.out
                  have hys : y.size = x.size := py.1
                  have TY : Two y mid e b := TR.out.keep (fun k k1 _ => py.2.1 k (.inr k1)) him.2.2.1 him.2.2.2.1
                  have PY : Aside (PermIn a b d y) := permIn_trans _ _ _ _ _ PX.out (permIn_mono _ _ _ _ _ _ (Nat.le_refl _) (by omega) (by omega) py)
                  have JN : Aside (∀ z, PermIn mid b y z → SortedIn ltI mid b z → SortedIn ltI a b z) := fun z p s => sorted_join (by omega) (by omega) CR.out py sy p s
                  have S7 : Aside _ := S6
                  have TY2 : Aside _ := TY
                  clear S5 S6 sy py TY TL TR PX CR
                  by_cases hc : mid < e ∧ e < b
                  · have hr := HI.out mid e b y _ (by omega) hc.1 hc.2 (by omega) (by omega) S7.out TY2.out
                    rw [hys, hxs] at hr
                    rw [decide_eq_true hc]
                    have HC := Lib.hid hr
                    clear hr
                    go_wp2_with fail
                    refine HC.out.mono ?_
                    rintro e2 w2 ⟨rfl, z, pz, sz, S8⟩
                    have S9 : Aside (Merged w0 blk off d a b (.returned (.tuple #[])) w2) := ⟨rfl, z, permIn_trans _ _ _ _ _ PY.out (permIn_mono _ _ _ _ _ _ (by omega) (Nat.le_refl _) (by omega) pz), JN.out z pz sz, S8⟩
                    clear S8 HC pz sz
                    go_wp2
                    go_end0
                    exact S9.out
                  · rw [decide_eq_false hc]
                    go_wp2
                    go_end0
                    exact ⟨rfl, y, PY.out, JN.out y (permIn_refl _ _ _) (TY2.out.whole hc him.2.2.1 him.2.2.2.1), S7.out⟩

theorem symMerge_any (blk off cap : Nat) (d0 : Array El) (w0 : World) (R : RowK encE 3 w0 blk off d0) (hsz : d0.size < 4611686018427387904) : ∀ (N a m b : Nat) (d : Array El) (w : World), b - a ≤ N → a < m → m < b → b ≤ d.size → d0.size = d.size → SWK encE 3 w0 blk off d w → Two d a m b →
    Calls Tryz.prog 112 #[.slice (some ⟨blk, off, none⟩) d.size cap, .int .i64 a, .int .i64 m, .int .i64 b, cmpV] w (Merged w0 blk off d a b)
  | 0, a, m, b, d, w, hN, h1, h2, hb, hs, S, hT => by omega
  | N + 1, a, m, b, d, w, hN, h1, h2, hb, hs, S, hT => by
    by_cases e1 : m = a + 1
    · subst e1
      rw [show ((a + 1 : Nat) : Int) = (a : Int) + 1 by omega]
      exact merge_first blk off cap a b d0 d w0 w R hs S h2 hb (by omega) hT.r fun j j1 j2 => hT.x a j (Nat.le_refl _) (by omega) j1 j2
    · by_cases e2 : b = m + 1
      · subst e2
        rw [show ((m + 1 : Nat) : Int) = (m : Int) + 1 by omega]
        exact merge_last blk off cap a m d0 d w0 w R hs S (by omega) hb (by omega) hT.l fun i i1 i2 => hT.x i m i1 i2 (Nat.le_refl _) (by omega)
      · exact merge_rest blk off cap a m b d0 d w0 w R hs S (by omega) (by omega) hb (by omega) hT fun a' m' b' d' w' k k1 k2 k3 k4 k5 k6 => symMerge_any blk off cap d0 w0 R hsz N a' m' b' d' w' (by omega) k1 k2 k3 k4 k5 k6
end Go.Proofs.YtmpklljiddggpaaGreatDoor
