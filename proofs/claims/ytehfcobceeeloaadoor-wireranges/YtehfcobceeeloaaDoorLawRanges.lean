/-
  The walk of WireRanges: for every three int64 and every slice of bytes it answers true, and nothing old is turned. Conditions: the sentinel errors lie where the program's text lays them.
-/
import Derived.Test.YtehfcobceeeloaaDoorLawErr
namespace Go.Proofs.YtehfcobceeeloaaDoor
open Go.RowKit

theorem numOf_range (x : Int) (rest : List UInt8) (lo hi : Int) (h1 : -9223372036854775808 ≤ x) (h2 : x ≤ 9223372036854775807) (h : ¬ (lo ≤ x ∧ x ≤ hi)) : numOf (enc x ++ rest) lo hi = ⟨3, 0, 0⟩ := by
  unfold numOf
  rw [dec_enc x h1 h2 rest]
  dsimp only
  rw [if_pos rfl, unzz_zz, if_pos (by omega)]

set_option maxRecDepth 100000 in
set_option maxHeartbeats 1000000 in
theorem ranges_short (A : Option Addr) (n c : Nat) (x lo hi : Int) (w : World) (h : 50 < n) :
    Calls Tryd.prog 5 #[.int .i64 x, .int .i64 lo, .int .i64 hi, .slice A n c] w (RetYes w) := by
  have hd : decide ((50 : Int) < (n : Int)) = true := decide_eq_true (by omega)
  go_enter Tryd.func5, Tryd.ntmps5
  go_wp2_with fail
  refine (first_any w).mono ?_
  rintro e w1 ⟨rfl, hB⟩
  go_wp2
  go_ret
  exact RetYes.mk hB

set_option maxRecDepth 100000 in
set_option maxHeartbeats 4000000 in
theorem ranges_long (A : Option Addr) (n c : Nat) (l : List UInt8) (x lo hi : Int) (w : World) (ads : List Addr) (hn : n = l.length) (hnl : n ≤ 50) (hs : Str w w.heap.size A l) (hz : A = none → c = 0) (hS : Sents w ads)
    (h1 : -9223372036854775808 ≤ x) (h2 : x ≤ 9223372036854775807) :
    Calls Tryd.prog 5 #[.int .i64 x, .int .i64 lo, .int .i64 hi, .slice A n c] w (RetYes w) := by
  have hd : decide ((50 : Int) < (n : Int)) = false := decide_eq_false (by omega)
  have HN := Lib.hid hn
  have HZ := Lib.hid hz
  have HS := Lib.hid hS
  have a0 : Lies w A l := ⟨hs⟩
  have H1 := Lib.hid h1
  have H2 := Lib.hid h2
  clear hn hz hS hs h1 h2
  go_enter Tryd.func5, Tryd.ntmps5
  go_wp2_with fail
  refine (first_any w).mono ?_
  rintro e w1 ⟨rfl, hB1⟩
  have a1 := a0.later hB1
  go_wp2_with fail
  refine (put_any none 0 0 [] x w1 rfl (by omega) Str.nil H1.out H2.out).mono ?_
  rintro e w2 ⟨A2, n2, c2, rfl, HN2, ho2, hC2⟩
  have hB2 := hB1.trans (hC2.mono hB1.size)
  have a2 := a1.later hC2
  have hn2 : n2 ≤ 10 := by have := HN2.out; have := enc_length x; simp at *; omega
  go_wp2_with fail
  refine (bytes_any A2 n2 c2 _ w2 HN2.out (by omega) ho2.str).mono ?_
  rintro e w3 ⟨A3, n3, c3, rfl, HN3, ho3, hC3⟩
  have hB3 := hB2.trans (hC3.mono hB2.size)
  have a3 := a2.later hC3
  have hn3 : n3 ≤ 10 := by have := HN3.out; have := enc_length x; simp at *; omega
  have ho3' : w3.ownsRow w2.heap.size 5 1 (.slice A3 n3 c3) n3 (([] ++ enc x).map byt) := by rw [HN3.out]; exact ho3
  clear a0 a1 a2 ho2 hC2
  go_wp2_with (at_builtin; refine append_str rfl (.tmp 28) (.tmp 29) rfl w2.heap.size _ _ _ rfl ho3' A n c _ l rfl a3.str HN.out HZ.out ?hlen hC3.size ?_)
  case hlen => omega
  intro v' w4 hown' hgrow
  have hB4 : Below w.heap.size w w4 := hB3.grown hgrow hB3.size (fun k hk => Nat.le_trans hB2.size (World.ownsRow.lt ho3' k hk).1)
  obtain ⟨A4, c4, rfl, ho4⟩ := own_of_row (L := [] ++ enc x) (news := l) (by rw [HN3.out, HN.out]) hown'
  have HN4 : Hid (([] ++ enc x ++ l).length = n2 + n) := Lib.hid (by have := HN2.out; have := HN.out; rw [List.length_append]; omega)
  obtain ⟨L, hL⟩ : ∃ L, L = [] ++ enc x ++ l := ⟨_, rfl⟩
  have HL : Hid (L = enc x ++ l) := Lib.hid (by rw [hL]; simp)
  rw [← hL] at ho4 HN4 ⊢
  clear hown' hgrow hL ho3 ho3' a3
  have hL60 : L.length ≤ 60 := by have := HN4.out; omega
  go_wp2_with fail
  refine (newReader_any A4 _ c4 L w4 rfl (by omega) ho4.str).mono ?_
  rintro e w5 ⟨g, rfl, hR5, _, hg, hC5⟩
  have hB5 := hB4.trans (hC5.mono hB4.size)
  have hgw : w.heap.size ≤ g := Nat.le_trans hB4.size hg
  have HS5 := Lib.hid (HS.out.later hB5)
  by_cases hin : lo ≤ x ∧ x ≤ hi
  · have hd1 : decide (lo ≤ x) = true := decide_eq_true hin.1
    have hd2 : decide (x ≤ hi) = true := decide_eq_true hin.2
    go_wp2_with fail
    refine (num_read g L l 0 n2 x lo hi w5 _ _ _ hR5 HS5.out.errs (by rw [List.drop_zero]; exact HL.out) (by have := HN2.out; simp at this; omega) H1.out H2.out hin.1 hin.2).mono ?_
    rintro e w6 ⟨rfl, hG6, hR6⟩
    have hB6 := grown_below hB5 hG6 hB5.size hgw
    clear hR5 hG6
    go_wp2_with fail
    refine (err_nil g L _ w6 hR6).mono ?_
    rintro e w7 ⟨rfl, rfl⟩
    go_wp2_with fail
    refine (at_any g L _ _ w6 hR6).mono ?_
    rintro e w7 ⟨rfl, rfl⟩
    go_wp2_with fail
    refine (left_val g L _ _ w6 (n : Int) hR6 (by have := HN4.out; omega)).mono ?_
    rintro e w7 ⟨rfl, m7, rfl⟩
    go_wp2
    go_ret
    exact RetYes.mk (below_drewN hB6 m7)
  · have Hin := Lib.hid hin
    go_wp2_with fail
    refine (num_fail g L 0 3 lo hi w5 _ _ _ hR5 HS5.out.errs (by omega) (by rw [List.drop_zero, HL.out]; exact numOf_range x l lo hi H1.out H2.out hin)).mono ?_
    rintro e w6 ⟨rfl, hG6, b, hbs, hb6, hR6⟩
    have hB6 := grown_below hB5 hG6 hB5.size hgw
    have HS6 := Lib.hid (HS.out.later hB6)
    have HB6 := Lib.hid hb6
    clear hR5 hG6 hb6 hin
    have hd12 : (decide (lo ≤ x) = true ∧ decide (x ≤ hi) = false) ∨ (decide (lo ≤ x) = false ∧ lo > x) := by
      by_cases hlo : lo ≤ x
      · exact .inl ⟨decide_eq_true hlo, decide_eq_false (by have := Hin.out; omega)⟩
      · exact .inr ⟨decide_eq_false hlo, by omega⟩
    rcases hd12 with ⟨hd1, hd2⟩ | ⟨hd1, hd2⟩
    all_goals
      go_wp2_with fail
      refine (num_bad g L 0 _ _ w6 _ _ hR6).mono ?_
      rintro e w7 ⟨rfl, rfl⟩
      go_wp2_with fail
      refine (bool_bad g L 0 w6 _ _ hR6).mono ?_
      rintro e w7 ⟨rfl, rfl⟩
      go_wp2_with fail
      refine (text_bad g L 0 _ w6 _ _ hR6).mono ?_
      rintro e w7 ⟨rfl, rfl⟩
      go_wp2_with fail
      refine (at_any g L 0 _ w6 hR6).mono ?_
      rintro e w7 ⟨rfl, rfl⟩
      go_wp2_with fail
      refine (err_bad g L 0 w6 _ _ hR6).mono ?_
      rintro e w7 ⟨rfl, rfl⟩
      go_wp2_with fail
      refine (placed_any _ _ w6 (by omega)).mono ?_
      rintro e w7 ⟨rfl, hC7⟩
      have HS7 := Lib.hid (HS6.out.later hC7)
      have HB7 := Lib.hid (HB6.out.below hC7 HB6.out.lt)
      have hB7 := hB6.trans (hC7.mono hB6.size)
      go_wp2_with fail
      refine (same_at' w7 ads 3 b _ _ _ _ HS7.out (HS7.out.pick 3 (by omega)) HB7.out (by omega) (by omega)).mono ?_
      rintro e w8 ⟨rfl, hC8⟩
      go_wp2
      go_ret
      exact RetYes.mk (hB7.trans (hC8.mono hB7.size))
end Go.Proofs.YtehfcobceeeloaaDoor
