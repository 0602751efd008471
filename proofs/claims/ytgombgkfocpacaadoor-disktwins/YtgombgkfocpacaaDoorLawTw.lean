/-
  The walk of DiskTwins. Conditions: each theorem's own premises.
-/
import Derived.Test.YtgombgkfocpacaaDoorDkRef
namespace Go.Proofs.YtgombgkfocpacaaDoor
open Go.RowKit Go.Maps

/-- Where the loop that turns what was handed out stands. -/
def TwR (w : World) (h n : Nat) (i : Value) (wr : World) : Prop :=
  ∃ k : Nat, k ≤ n ∧ i = .int .i64 (k : Int) ∧ (∀ j, j < n → ∃ z, wr.cell? ⟨h, j, none⟩ = some (.int .u8 z)) ∧ (∀ j, j < n → wr.frozen? ⟨h, j, none⟩ = false) ∧ Fr [h] w wr
theorem twR_start {w : World} {h : Nat} {l : List UInt8} {B : Nat} (hs : Str w B (some ⟨h, 0, none⟩) l) (hf : ∀ j, j < l.length → w.frozen? ⟨h, j, none⟩ = false) : TwR w h l.length (.int .i64 0) w := by
  refine ⟨0, Nat.zero_le _, rfl, fun j hj => ?_, hf, Fr.refl _ _⟩
  obtain ⟨ad, e, _, hc⟩ := hs.pick hj
  cases e
  rw [lit_add] at hc
  exact ⟨_, hc⟩
theorem twR_step {w wr : World} {h n k : Nat} {z : Int} (hk : k < n) (hc : ∀ j, j < n → ∃ z, wr.cell? ⟨h, j, none⟩ = some (.int .u8 z)) (hf : ∀ j, j < n → wr.frozen? ⟨h, j, none⟩ = false) (hF : Fr [h] w wr) :
    TwR w h n (.int .i64 ((k : Int) + 1)) (wr.setCell ⟨h, k, none⟩ (.int .u8 z)) := by
  refine ⟨k + 1, hk, by go_num, fun j hj => ?_, fun j hj => ?_, hF.set (.inl (by simp)) _⟩
  · obtain ⟨y, hy⟩ := hc j hj
    by_cases e : j = k
    · subst e
      exact ⟨z, World.cell?_setCell_same _ _ _ hy⟩
    · exact ⟨y, by rw [World.cell?_setCell_other _ _ _ _ (by simp)]; exact hy⟩
  · rw [World.frozen?_setCell]
    exact hf j hj

/-- The disk of the law, a pending. -/
def tw1 (l : List UInt8) : DS := ⟨List.replicate 8 none, [(3, l)], 1, 0, false⟩
/-- The disk that is copied. -/
def twS (flush : Bool) (l : List UInt8) : DS := if flush then flushD (tw1 l) else tw1 l
theorem twS_len (flush : Bool) (l : List UInt8) : (twS flush l).kept.length = 8 := by cases flush <;> simp [twS, tw1, flushD, flushK]
theorem twS_armed (flush : Bool) (l : List UInt8) : -9223372036854775808 ≤ (twS flush l).armed ∧ (twS flush l).armed ≤ 9223372036854775807 := by cases flush <;> simp [twS, tw1, flushD, powA]
theorem twS_calls (flush : Bool) (l : List UInt8) : 0 ≤ (twS flush l).calls ∧ (twS flush l).calls < 4611686018427387904 := by cases flush <;> simp [twS, tw1, flushD, powA]
theorem own_from {w : World} {base c : Nat} {A : Option Addr} {l : List UInt8} (h : Own w base A c l) : ∀ ad, A = some ad → base ≤ ad.block := by
  intro ad e
  rcases h.form with ⟨rfl, _⟩ | ⟨g, rfl, hg, _⟩
  · cases e
  · cases e; exact hg
theorem twS_look (flush : Bool) (l : List UInt8) : lookD (twS flush l) 3 = some l := by
  cases flush
  · rfl
  · rfl
theorem twS_fell (flush : Bool) (l : List UInt8) : lookD (crashD (twS flush l) []) 3 = if flush then some l else none := by
  cases flush
  · rfl
  · rfl

set_option maxRecDepth 100000 in
set_option maxHeartbeats 1000000 in
theorem diskTwins_big (A1 A2 : Option Addr) (n1 c1 n2 c2 : Nat) (flush : Bool) (w : World) (h : 100 < n1 ∨ 100 < n2) :
    Calls Tryd.prog 6 #[.slice A1 n1 c1, .slice A2 n2 c2, .bool flush] w (RetYes w) := by
  by_cases h1 : 100 < n1
  · have h1' : (100 : Int) < n1 := by omega
    go_enter Tryd.func6, Tryd.ntmps6
    go_wp2_with fail
    refine (first_any w).mono ?_
    rintro e w1 ⟨rfl, hB1⟩
    go_wp2
    go_ret
    exact ⟨rfl, hB1⟩
  · have h1' : ¬ (100 : Int) < n1 := by omega
    have h2' : (100 : Int) < n2 := by omega
    go_enter Tryd.func6, Tryd.ntmps6
    go_wp2_with fail
    refine (first_any w).mono ?_
    rintro e w1 ⟨rfl, hB1⟩
    go_wp2
    go_ret
    exact ⟨rfl, hB1⟩

set_option maxRecDepth 100000 in
set_option maxHeartbeats 2000000 in
theorem diskTwins_small (A1 A2 : Option Addr) (n1 c1 n2 c2 : Nat) (l1 l2 : List UInt8) (flush : Bool) (w : World) (h1 : n1 = l1.length) (h2 : n2 = l2.length) (hs1 : Str w w.heap.size A1 l1) (hs2 : Str w w.heap.size A2 l2) (hl1 : n1 ≤ 100) (hl2 : n2 ≤ 100) :
    Calls Tryd.prog 6 #[.slice A1 n1 c1, .slice A2 n2 c2, .bool flush] w (RetYes w) := by
  have i1 : ¬ (100 : Int) < n1 := by omega
  have i2 : ¬ (100 : Int) < n2 := by omega
  have H1 := Lib.hid h1
  have H2 := Lib.hid h2
  have S1 := Lib.hid hs1
  have S2 := Lib.hid hs2
  clear h1 h2 hs1 hs2
  go_enter Tryd.func6, Tryd.ntmps6
  go_wp2_with fail
  refine (first_any w).mono ?_
  rintro e w1 ⟨rfl, hB1⟩
  have HB1 := Lib.hid hB1
  clear hB1
  go_wp2_with fail
  refine (new_ok 8 w1 (by omega) (by omega)).mono ?_
  rintro e w2 ⟨g, f, m, rfl, hg, hf, hm, hD2, hB2⟩
  have HB2 := Lib.hid (HB1.out.trans (hB2.mono HB1.out.size))
  have hg : w.heap.size ≤ g := Nat.le_trans HB1.out.size hg
  have hf : w.heap.size ≤ f := Nat.le_trans HB1.out.size hf
  have hm : w.heap.size ≤ m := Nat.le_trans HB1.out.size hm
  have HD2 := Lib.hid hD2
  clear hD2 hB2 HB1
  go_wp2_with fail
  have hw := write_ok g f m (newD 8) 3 w.heap.size A1 c1 l1 w2 HD2.out rfl (by simp [newD]) (by have := H1.out; omega) (S1.out.below HB2.out) HB2.out.size
    (fun ad _ hb => by omega) (by simp [newD]) (by simp [newD])
  rw [← H1.out] at hw
  refine hw.mono ?_
  rintro e w4 ⟨rfl, hD3, hF3⟩
  have HB4 := Lib.hid (below_fr HB2.out hF3 HB2.out.size (by simp; omega))
  have HD4 : Hid (Dk w4 g f m (tw1 l1)) := Lib.hid hD3
  clear hD3 hF3 hw HB2 HD2
  cases flush
  case' true =>
    go_wp2_with fail
    refine (flush_ok g f m (tw1 l1) w4 HD4.out rfl (by simp [tw1]) (by simp [tw1])).mono ?_
    rintro e w5 ⟨rfl, m5, hm5, hD5, hF5⟩
    have HB5 := Lib.hid (below_fr HB4.out hF5 HB4.out.size (by simp; omega))
    have hm : w.heap.size ≤ m5 := by
      rcases hm5 with rfl | h
      · exact hm
      · exact Nat.le_trans HB4.out.size h
    clear hF5 HB4 HD4
    rename_i h5
    have HB4 := HB5
    have HD4 : Hid (Dk w5 g f m5 (twS true l1)) := Lib.hid hD5
    clear HB5 hD5
    generalize w5 = w4 at *
    generalize m5 = m at *
  case' false =>
    have HD4 : Hid (Dk w4 g f m (twS false l1)) := HD4
  all_goals
    go_wp2_with fail
    refine (bytes_any A1 n1 c1 l1 w4 H1.out (by omega) ((S1.out.below HB4.out).more HB4.out.size)).mono ?_
    rintro e w5 ⟨A5, n5, c5, rfl, HN5, hO5, hB5⟩
    have HB5 := Lib.hid (HB4.out.trans (hB5.mono HB4.out.size))
    have HW5 := Lib.hid hO5.str
    have HA5 := Lib.hid (own_from hO5)
    have hs5 := hB5.size
    have hgl := HD4.out.gl
    have hfl := HD4.out.fl
    have hml := HD4.out.ml
    have HD5 := Lib.hid (HD4.out.fr ((Fr.refl [] w4).belows hB5 (Nat.le_refl _)) (by simp) (by simp) (by simp))
    clear HD4 HB4 hO5 hB5
    go_wp2_with fail
    refine (clone_any g f m _ w5 HD5.out).mono ?_
    rintro e w6 ⟨h, f2, m2, rfl, hh, hf2, hm2, hD6, hB6⟩
    have HB6 := Lib.hid (HB5.out.trans (hB6.mono HB5.out.size))
    have hs6 := hB6.size
    have hF6 : Fr [] w5 w6 := (Fr.refl [] w5).belows hB6 (Nat.le_refl _)
    have HW6 := Lib.hid (HW5.out.below hB6)
    have HD6 := Lib.hid (HD5.out.fr hF6 (by simp) (by simp) (by simp))
    have HC6 := Lib.hid hD6
    have hcg := hD6.gl
    have hcf := hD6.fl
    have hcm := hD6.ml
    clear hD6 hB6 hF6 HD5 HW5 HB5
    go_wp2_with fail
    have hw := write_ok g f m _ 3 w.heap.size A2 c2 l2 w6 HD6.out rfl (by rw [twS_len]; omega) (by have := H2.out; omega) (S2.out.below HB6.out) HB6.out.size (fun ad _ hb => by omega) (twS_armed _ _) (twS_calls _ _)
    rw [← H2.out] at hw
    refine hw.mono ?_
    rintro e w7 ⟨rfl, _, hF7⟩
    have HB7 := Lib.hid (below_fr HB6.out hF7 HB6.out.size (by simp; omega))
    have HC7 := Lib.hid (HC6.out.fr hF7 (by simp; omega) (by simp; omega) (by simp; omega))
    have HW7 := Lib.hid (HW6.out.fr' hF7 hs6 (fun ad e _ => by have := HA5.out ad e; simp; omega))
    have hs7 := hF7.size
    clear hw hF7 HD6 HC6 HW6 HB6
    go_wp2_with fail
    refine (read_ok h f2 m2 _ 3 w7 HC7.out rfl (by rw [twS_len]; omega)).mono ?_
    rw [twS_look]
    rintro e w8 ⟨hB8, hx, cx, rfl, hxl, hst8, hle8, hfz8⟩
    have HB8 := Lib.hid (HB7.out.trans (hB8.mono HB7.out.size))
    have hF8 : Fr [] w7 w8 := (Fr.refl [] w7).belows hB8 (Nat.le_refl _)
    have HC8 := Lib.hid (HC7.out.fr hF8 (by simp) (by simp) (by simp))
    have HW8 := Lib.hid (HW7.out.fr' hF8 (by omega) (by simp))
    have hs8 := hF8.size
    have HS8 := Lib.hid hst8
    have HZ8 := Lib.hid hfz8
    clear hB8 hF8 hst8 hfz8 HC7 HW7 HB7
    go_wp2_with fail
    refine (same_any (some ⟨hx, 0, none⟩) A5 _ n5 cx c5 l1 l1 w8 _ _ rfl HN5.out (by omega) HS8.out HW8.out).mono ?_
    rintro e w9 ⟨rfl, nq, rfl⟩
    have hse : sameB l1 l1 = true := decide_eq_true rfl
    rw [hse]
    have HB9 := Lib.hid (HB8.out.trans ((below_drewN w8 nq).mono HB8.out.size))
    have hF9 : Fr [] w8 (w8.drewN nq) := (Fr.refl [] w8).drew nq
    have HC9 := Lib.hid (HC8.out.fr hF9 (by simp) (by simp) (by simp))
    have HW9 := Lib.hid (HW8.out.fr' hF9 (by omega) (by simp))
    have HS9 := Lib.hid (twR_start (HS8.out.fr' hF9 (Nat.le_refl _) (by simp)) (fun j hj => HZ8.out j hj))
    have hs9 := hF9.size
    generalize w8.drewN nq = w9 at *
    clear hF9 HC8 HW8 HB8 HS8 HZ8 hse
    generalize hq : l1.length = q at *
    go_wp2_with fail
    go_loopw [15] (fun i wr => TwR w9 hx q i wr) (fun i _ => q - (intOf i).toNat)
    case atStart => exact HS9.out
    case round =>
      obtain ⟨k, hk, rfl, hc, hf, hF⟩ := hrel
      by_cases hlt : k < q
      · have hltI : (k : Int) < q := by omega
        obtain ⟨z, hz⟩ := hc k hlt
        have hzf := hf k hlt
        have HC := Lib.hid hc
        have HF := Lib.hid hf
        have HFr := Lib.hid hF
        clear hc hf hF
        go_wp2
        go_roundw
        case rel => exact twR_step hlt HC.out HF.out HFr.out
        case measure => simp [intOf]; omega
      · have hltI : ¬ (k : Int) < q := by omega
        have HB10 := Lib.hid (below_fr HB9.out hF HB9.out.size (by simp; omega))
        have HC10 := Lib.hid (HC9.out.fr hF (by simp; omega) (by simp; omega) (by simp; omega))
        have HW10 := Lib.hid (HW9.out.fr' hF (by omega) (fun ad e hb => by simp; omega))
        have hs10 := hF.size
        clear hc hf hF HS9 HC9 HW9 HB9
        go_wp2_with fail
        refine (read_ok h f2 m2 _ 3 wr HC10.out rfl (by rw [twS_len]; omega)).mono ?_
        rw [twS_look]
        rintro e w11 ⟨hB11, hy, cy, rfl, hyl, hst11, hle11, _⟩
        have HB11 := Lib.hid (HB10.out.trans (hB11.mono HB10.out.size))
        have hF11 : Fr [] wr w11 := (Fr.refl [] wr).belows hB11 (Nat.le_refl _)
        have HC11 := Lib.hid (HC10.out.fr hF11 (by simp) (by simp) (by simp))
        have HW11 := Lib.hid (HW10.out.fr' hF11 (by omega) (by simp))
        have HY11 := Lib.hid hst11
        have hs11 := hF11.size
        clear hB11 hF11 hst11 HC10 HW10 HB10
        go_wp2_with fail
        refine (crash_any h f2 m2 _ 0 none 0 0 [] w11 HC11.out Ints.nil rfl (Nat.zero_le _) (by simp)).mono ?_
        rintro e w12 ⟨rfl, m12, hm12, hD12, hF12⟩
        have HB12 := Lib.hid (below_fr HB11.out hF12 HB11.out.size (by simp; omega))
        have HC12 := Lib.hid hD12
        have HW12 := Lib.hid (HW11.out.fr' hF12 (by omega) (fun ad e hb => by simp; omega))
        have HY12 := Lib.hid (HY11.out.fr' hF12 (by omega) (fun ad e hb => by cases e; show hy ∉ _; simp; omega))
        have hs12 := hF12.size
        clear hF12 hD12 HC11 HW11 HB11 HY11
        go_wp2_with fail
        refine (read_ok h f2 m12 _ 3 w12 HC12.out rfl (by show 3 < (crashK _ _ _).length; rw [crashK_length, twS_len]; omega)).mono ?_
        rw [twS_fell]
        rintro e w13 ⟨hB13, he⟩
        have HB13 := Lib.hid (HB12.out.trans (hB13.mono HB12.out.size))
        have hF13 : Fr [] w12 w13 := (Fr.refl [] w12).belows hB13 (Nat.le_refl _)
        have HW13 := Lib.hid (HW12.out.fr' hF13 (by omega) (by simp))
        have HY13 := Lib.hid (HY12.out.fr' hF13 (by omega) (by simp))
        have hs13 := hF13.size
        have hse : sameB l1 l1 = true := decide_eq_true rfl
        have HQ := Lib.hid hq
        clear hB13 hF13 HC12 HW12 HY12 HB12 hq
        first
          | (obtain rfl : e = .returned (.tuple #[.slice none 0 0, .bool false, .nilIface]) := he
             go_wp2_with fail
             refine (same_any (some ⟨hy, 0, none⟩) A5 q n5 cy c5 l1 l1 w13 _ _ HQ.out.symm (HN5.out.trans HQ.out.symm) (by omega) HY13.out HW13.out).mono ?_
             rintro e w14 ⟨rfl, n14, rfl⟩
             rw [hse]
             go_wp2
             go_ret
             exact ⟨rfl, HB13.out.trans ((below_drewN w13 n14).mono HB13.out.size)⟩)
          | (obtain ⟨hz, cz, rfl, hzl, hst13, hle13, _⟩ := he
             have HZ13 := Lib.hid hst13
             clear hst13
             go_wp2_with fail
             refine (same_any (some ⟨hy, 0, none⟩) A5 q n5 cy c5 l1 l1 w13 _ _ HQ.out.symm (HN5.out.trans HQ.out.symm) (by omega) HY13.out HW13.out).mono ?_
             rintro e w14 ⟨rfl, n14, rfl⟩
             rw [hse]
             have HB14 := Lib.hid (HB13.out.trans ((below_drewN w13 n14).mono HB13.out.size))
             have hF14 : Fr [] w13 (w13.drewN n14) := (Fr.refl [] w13).drew n14
             have HW14 := Lib.hid (HW13.out.fr' hF14 (by omega) (by simp))
             have HZ14 := Lib.hid (HZ13.out.fr' hF14 (Nat.le_refl _) (by simp))
             generalize w13.drewN n14 = w14 at *
             clear hF14 HW13 HZ13 HY13 HB13
             go_wp2_with fail
             refine (same_any (some ⟨hz, 0, none⟩) A5 _ n5 cz c5 l1 l1 w14 _ _ rfl (HN5.out.trans HQ.out.symm) (by omega) HZ14.out HW14.out).mono ?_
             rintro e w15 ⟨rfl, n15, rfl⟩
             rw [hse]
             go_wp2
             go_ret
             exact ⟨rfl, HB14.out.trans ((below_drewN w14 n15).mono HB14.out.size)⟩)

theorem diskTwins_walk (A1 : Option Addr) (n1 c1 : Nat) (l1 : List UInt8) (A2 : Option Addr) (n2 c2 : Nat) (l2 : List UInt8) (flush : Bool) (w : World) (h1 : n1 = l1.length) (hs1 : Str w w.heap.size A1 l1) (h2 : n2 = l2.length) (hs2 : Str w w.heap.size A2 l2) :
    Calls Tryd.prog 6 #[.slice A1 n1 c1, .slice A2 n2 c2, .bool flush] w (RetYes w) := by
  by_cases h : 100 < n1 ∨ 100 < n2
  · exact diskTwins_big A1 A2 n1 c1 n2 c2 flush w h
  · exact diskTwins_small A1 A2 n1 c1 n2 c2 l1 l2 flush w h1 h2 hs1 hs2 (by omega) (by omega)
end Go.Proofs.YtgombgkfocpacaaDoor
