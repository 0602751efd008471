/-
  The walk of DiskArms. Conditions: each theorem's own premises.
-/
import Derived.Test.YtgombgkfocpacaaDoorDkErr
import Derived.Test.YtgombgkfocpacaaDoorDkFrame21
import Derived.Test.YtgombgkfocpacaaDoorNumb
namespace Go.Proofs.YtgombgkfocpacaaDoor
open Go.RowKit Go.Maps

/-- The disk that was armed for the call behind q, behind k calls. -/
def ArS (q k : Nat) (s : DS) : Prop := s.kept.length = 8 ∧ s.calls = ((min k q : Nat) : Int) ∧ s.armed = ((q + 1 - k : Nat) : Int) ∧ s.down = decide (q < k)
theorem arS_on {q k : Nat} {s : DS} (h : ArS q k s) (hk : k < q) : powN s.armed s.down = false ∧ powA s.armed = ((q + 1 - (k + 1) : Nat) : Int) := by
  obtain ⟨_, _, h3, h4⟩ := h
  rw [h3, h4, decide_eq_false (by omega)]
  unfold powN powA
  refine ⟨?_, ?_⟩
  · rw [decide_eq_false (by omega)]; rfl
  · rw [if_pos (by omega)]
    omega
theorem arS_off {q k : Nat} {s : DS} (h : ArS q k s) (hk : ¬ k < q) : powN s.armed s.down = true ∧ powA s.armed = ((q + 1 - (k + 1) : Nat) : Int) := by
  obtain ⟨_, _, h3, h4⟩ := h
  rw [h3, h4]
  unfold powN powA
  by_cases e : k = q
  · subst e
    refine ⟨?_, ?_⟩
    · rw [decide_eq_true (show ((k + 1 - k : Nat) : Int) = 1 by omega), Bool.or_true]
    · rw [if_pos (by omega)]; omega
  · rw [decide_eq_true (show q < k by omega)]
    refine ⟨rfl, ?_⟩
    rw [if_neg (by omega)]; omega
theorem arS_armed {q k : Nat} {s : DS} (h : ArS q k s) (hq : q < 30) : -9223372036854775808 ≤ s.armed ∧ s.armed ≤ 9223372036854775807 := by rw [h.2.2.1]; omega
theorem arS_calls {q k : Nat} {s : DS} (h : ArS q k s) (hq : q < 30) : 0 ≤ s.calls ∧ s.calls < 4611686018427387904 := by rw [h.2.1]; omega
theorem arS_write {q k : Nat} {s : DS} (h : ArS q k s) (hk : k < q) (p : Pend) : ArS q (k + 1) { s with pend := p, calls := s.calls + 1, armed := powA s.armed, down := false } := by
  refine ⟨h.1, ?_, (arS_on h hk).2, (decide_eq_false (by omega)).symm⟩
  show s.calls + 1 = _
  rw [h.2.1]
  omega
theorem arS_flush {q k : Nat} {s : DS} (h : ArS q k s) (hk : k < q) : ArS q (k + 1) (flushD s) := by
  refine ⟨by simp [flushD, flushK, h.1], ?_, (arS_on h hk).2, (decide_eq_false (by omega)).symm⟩
  show s.calls + 1 = _
  rw [h.2.1]
  omega
theorem arS_err {q k : Nat} {s : DS} (h : ArS q k s) (hk : ¬ k < q) : ArS q (k + 1) { s with armed := powA s.armed, down := powN s.armed s.down } := by
  refine ⟨h.1, ?_, (arS_off h hk).2, ?_⟩
  · show s.calls = _
    rw [h.2.1]
    omega
  · show powN s.armed s.down = _
    rw [(arS_off h hk).1, decide_eq_true (by omega)]

/-- Where the loop stands. -/
def ArR (w : World) (g f q n : Nat) (v i : Value) (wr : World) : Prop :=
  ∃ (k m : Nat) (s : DS), k ≤ n ∧ i = .int .i64 (k : Int) ∧ v = .int .i64 ((min k q : Nat) : Int) ∧ w.heap.size ≤ m ∧ Dk wr g f m s ∧ ArS q k s ∧ Below w.heap.size w wr

set_option maxRecDepth 100000 in
set_option maxHeartbeats 2000000 in
theorem diskArms_any (a b : Int) (w : World) (ads : List Addr) (hS : Sents w ads) :
    Calls Tryd.prog 5 #[.int .i64 a, .int .i64 b] w (RetYes w) := by
  have HS := Lib.hid hS
  clear hS
  go_enter Tryd.func5, Tryd.ntmps5
  go_wp2_with fail
  refine (first_any w).mono ?_
  rintro e w1 ⟨rfl, hB1⟩
  have HB1 := Lib.hid hB1
  clear hB1
  go_wp2_with fail
  refine (number_any a 30 _ (by omega) (by omega)).mono ?_
  rintro e w2 ⟨rfl, rfl⟩
  obtain ⟨q, hq, hq30⟩ : ∃ q : Nat, a % 30 = (q : Int) ∧ q < 30 := ⟨(a % 30).toNat, by omega, by omega⟩
  rw [hq]
  clear hq
  go_wp2_with fail
  refine (number_any b 30 _ (by omega) (by omega)).mono ?_
  rintro e w2 ⟨rfl, rfl⟩
  obtain ⟨n, hn, hn30⟩ : ∃ n : Nat, b % 30 = (n : Int) ∧ n < 30 := ⟨(b % 30).toNat, by omega, by omega⟩
  rw [hn]
  clear hn
  go_wp2_with fail
  refine (new_ok 8 w1 (by omega) (by omega)).mono ?_
  rintro e w3 ⟨g, f, m, rfl, hg, hf, hm, hD3, hB3⟩
  have HB3 := Lib.hid (HB1.out.trans (hB3.mono HB1.out.size))
  have hg' : w.heap.size ≤ g := Nat.le_trans HB1.out.size hg
  have hf' : w.heap.size ≤ f := Nat.le_trans HB1.out.size hf
  have hm' : w.heap.size ≤ m := Nat.le_trans HB1.out.size hm
  obtain ⟨k3, hH3, h31, h32⟩ := hD3.head
  have HH3 := Lib.hid hH3
  have HD3 := Lib.hid hD3
  have HLow := Lib.hid (es_low (es_of HS.out) hg')
  clear hD3 hB3 HB1 hg hf hm hH3
  go_wp2_with fail
  refine (arm_head g f m _ k3 _ _ _ _ w3 HH3.out).mono ?_
  rintro e w4 ⟨rfl, hH4, hF4⟩
  have HB4 := Lib.hid (below_fr HB3.out hF4 HB3.out.size (by simp; omega))
  have HD4 := Lib.hid (HD3.out.fused hF4 hH4 h31 h32)
  clear hH4 hF4 HD3 HH3 HB3 h31 h32
  go_wp2_with fail
  go_loopw [8, 9] (fun v i wr => ArR w g f q n v i wr) (fun _ i _ => n - (intOf i).toNat)
  case atStart => exact ⟨0, m, _, Nat.zero_le _, rfl, by simp, hm', HD4.out, ⟨by simp [newD], by simp [newD], by show (q : Int) + 1 = _; omega, by simp [newD]⟩, HB4.out⟩
  case round =>
    obtain ⟨k, m5, s, hk, rfl, rfl, hm5, hDk, hA, hB⟩ := hrel
    clear HD4 HB4
    have HDk := Lib.hid hDk
    have HA := Lib.hid hA
    have HB := Lib.hid hB
    clear hDk hA hB
    by_cases hlt : k < n
    · have hltI : (k : Int) < n := by omega
      by_cases hkq : k < q
      · have hkqI : (k : Int) < q := by omega
        have hgood : min k q = k := by omega
        rw [hgood]
        by_cases h3 : k % 3 = 2
        · have h3I : ((k : Int) % 3 == 2) = true := by rw [beq_iff_eq]; omega
          go_wp2_with fail
          refine (flush_ok g f m5 s _ HDk.out (arS_on HA.out hkq).1 (arS_armed HA.out hq30) (arS_calls HA.out hq30)).mono ?_
          rintro e w5 ⟨rfl, m6, hm6, hD6, hF6⟩
          have HB6 := Lib.hid (below_fr HB.out hF6 HB.out.size (by simp; omega))
          have hm6' : w.heap.size ≤ m6 := by
            rcases hm6 with rfl | h
            · exact hm5
            · exact Nat.le_trans HB.out.size h
          have HD6 := Lib.hid hD6
          clear hD6 hF6 HDk HB hm6
          go_wp2
          go_roundw
          case rel => exact ⟨k + 1, m6, _, by omega, by go_num, by rw [show min (k + 1) q = k + 1 by omega]; go_num, hm6', HD6.out, arS_flush HA.out hkq, HB6.out⟩
          case measure => simp [intOf]; omega
        · have h3I : ((k : Int) % 3 == 2) = false := by rw [beq_eq_false_iff_ne]; omega
          go_wp2_with fail
          have hF5 : Fr [] wr (wr.alloc (.cells #[.int .u8 (k : Int)] 5)) := (Fr.refl [] wr).alloc _
          have hby : (((UInt8.ofNat k).toNat : Nat) : Int) = (k : Int) := by rw [UInt8.toNat_ofNat', Nat.mod_eq_of_lt (by omega)]
          have hst := str_one wr (UInt8.ofNat k)
          rw [hby] at hst
          have hgl5 := HDk.out.gl
          refine (write_ok g f m5 s ((k : Int) % 8) (wr.heap.size + 1) (some ⟨wr.heap.size, 0, none⟩) 1 [UInt8.ofNat k] _ (HDk.out.fr hF5 (by simp) (by simp) (by simp)) (arS_on HA.out hkq).1 (by rw [HA.out.1]; omega) (by simp) hst (by simp)
            (by intro ad e _; cases e; show wr.heap.size ≠ g; omega) (arS_armed HA.out hq30) (arS_calls HA.out hq30)).mono ?_
          rintro e w6 ⟨rfl, hD6, hF6⟩
          have HB6 := Lib.hid (below_fr (below_fr HB.out hF5 HB.out.size (by simp)) hF6 (by have := HB.out.size; simp; omega) (by simp; omega))
          have HD6 := Lib.hid hD6
          clear hD6 hF6 hF5 hst HDk HB
          go_wp2
          go_roundw
          case rel => exact ⟨k + 1, m5, _, by omega, by go_num, by rw [show min (k + 1) q = k + 1 by omega]; go_num, hm5, HD6.out, arS_write HA.out hkq _, HB6.out⟩
          case measure => simp [intOf]; omega
      · have hkqI : ¬ (k : Int) < q := by omega
        have hgood : min k q = q := by omega
        rw [hgood]
        by_cases h3 : k % 3 = 2
        · have h3I : ((k : Int) % 3 == 2) = true := by rw [beq_iff_eq]; omega
          go_wp2_with fail
          refine (flush_err g f m5 s _ _ _ _ _ HDk.out (es_of (HS.out.later HB.out)) HLow.out (arS_armed HA.out hq30) (arS_off HA.out hkq).1).mono ?_
          rintro e w6 ⟨rfl, hD6, hF6⟩
          have HB6 := Lib.hid (below_fr HB.out hF6 HB.out.size (by simp; omega))
          have HD6 := Lib.hid hD6
          clear hD6 hF6 HDk HB
          go_wp2_with fail
          refine (is_err w6 ads 18 _ 119 rfl (HS.out.later HB6.out) (ads_at HS.out 18 (by omega))).mono ?_
          rintro e w7 ⟨rfl, hB7⟩
          have HB7 := Lib.hid (HB6.out.trans (hB7.mono HB6.out.size))
          have HD7 := Lib.hid (HD6.out.fr ((Fr.refl [] _).belows hB7 (Nat.le_refl _)) (by simp) (by simp) (by simp))
          clear hB7 HD6 HB6
          go_wp2
          go_roundw
          case rel => exact ⟨k + 1, m5, _, by omega, by go_num, by rw [show min (k + 1) q = q by omega], hm5, HD7.out, arS_err HA.out hkq, HB7.out⟩
          case measure => simp [intOf]; omega
        · have h3I : ((k : Int) % 3 == 2) = false := by rw [beq_eq_false_iff_ne]; omega
          go_wp2_with fail
          have hF5 : Fr [] wr (wr.alloc (.cells #[.int .u8 (k : Int)] 5)) := (Fr.refl [] wr).alloc _
          have HB5 := Lib.hid (below_fr HB.out hF5 HB.out.size (by simp))
          refine (write_err g f m5 s ((k : Int) % 8) (some ⟨wr.heap.size, 0, none⟩) 1 1 _ _ _ _ _ (HDk.out.fr hF5 (by simp) (by simp) (by simp)) (es_of (HS.out.later HB5.out)) HLow.out (arS_armed HA.out hq30) (.inl (arS_off HA.out hkq).1)).mono ?_
          rw [(arS_off HA.out hkq).1, if_pos rfl]
          rintro e w6 ⟨rfl, hD6, hF6⟩
          have HB6 := Lib.hid (below_fr HB5.out hF6 HB5.out.size (by simp; omega))
          have HD6 := Lib.hid hD6
          clear hD6 hF6 hF5 HDk HB HB5
          go_wp2_with fail
          refine (is_err w6 ads 18 _ 119 rfl (HS.out.later HB6.out) (ads_at HS.out 18 (by omega))).mono ?_
          rintro e w7 ⟨rfl, hB7⟩
          have HB7 := Lib.hid (HB6.out.trans (hB7.mono HB6.out.size))
          have HD7 := Lib.hid (HD6.out.fr ((Fr.refl [] _).belows hB7 (Nat.le_refl _)) (by simp) (by simp) (by simp))
          clear hB7 HD6 HB6
          go_wp2
          go_roundw
          case rel => exact ⟨k + 1, m5, _, by omega, by go_num, by rw [show min (k + 1) q = q by omega], hm5, HD7.out, arS_err HA.out hkq, HB7.out⟩
          case measure => simp [intOf]; omega
    · have hltI : ¬ (k : Int) < n := by omega
      obtain rfl : k = n := by omega
      obtain ⟨k5, hH5, _, _⟩ := HDk.out.head
      have HH5 := Lib.hid hH5
      clear hH5
      go_wp2_with fail
      refine (down_head g f m5 _ k5 _ _ _ _ HH5.out).mono ?_
      rintro e w6 ⟨rfl, rfl⟩
      rw [HA.out.2.2.2]
      have hdn : decide (q < k) = decide ((q : Int) + 1 ≤ k) := by rw [Bool.eq_iff_iff]; simp; omega
      rw [hdn]
      go_wp2_with fail
      refine (calls_head g f m5 _ k5 _ _ _ _ HH5.out).mono ?_
      rintro e w7 ⟨rfl, rfl⟩
      rw [HA.out.2.1]
      generalize min k q = gd
      go_wp2_with fail
      refine (crash_any g f m5 s 0 none 0 0 [] _ HDk.out Ints.nil rfl (Nat.zero_le _) (by simp)).mono ?_
      rintro e w8 ⟨rfl, m8, hm8, hD8, hF8⟩
      have HB8 := Lib.hid (below_fr HB.out hF8 HB.out.size (by simp; omega))
      have HD8 := Lib.hid hD8
      obtain ⟨k8, hH8, _, _⟩ := hD8.head
      have HH8 := Lib.hid hH8
      clear hD8 hF8 HDk HB hH8 HH5 hdn
      go_wp2_with fail
      refine (down_head g f m8 _ k8 _ _ _ _ HH8.out).mono ?_
      rintro e w9 ⟨rfl, rfl⟩
      rw [show (crashD s []).down = false from rfl]
      go_wp2_with fail
      refine (flush_ok g f m8 (crashD s []) _ HD8.out rfl (by show _ ≤ (0 : Int) ∧ (0 : Int) ≤ _; omega) (by show 0 ≤ s.calls ∧ s.calls < _; exact arS_calls HA.out hq30)).mono ?_
      rintro e w10 ⟨rfl, m10, _, _, hF10⟩
      have HB10 := Lib.hid (below_fr HB8.out hF10 HB8.out.size (by simp; omega))
      clear hF10
      go_wp2
      go_ret
      exact ⟨rfl, HB10.out⟩

theorem diskArms_walk (a b : Int) (w : World) (_ : (Lit.int .i64 a).wf = true) (_ : (Lit.int .i64 b).wf = true) (hL : laidMetH Tryd.prog laid21 w) :
    Calls Tryd.prog 5 #[.int .i64 a, .int .i64 b] w (RetYes w) := by
  obtain ⟨ads, hS⟩ := sents_of hL
  exact diskArms_any a b w ads hS
end Go.Proofs.YtgombgkfocpacaaDoor
