/-
  The walk of WirePuts: for every slice of bytes, integer and string it answers true, and nothing old is turned. Conditions: the three errors of wire lie where the program's text lays them.
-/
import Derived.Test.YtehfcobceeeloaaDoorFirst
import Derived.Test.YtehfcobceeeloaaDoorRdr
namespace Go.Proofs.YtehfcobceeeloaaDoor
open Go.RowKit

theorem Errs.below {w w' : World} {aE aS aR : Addr} (h : Errs w aE aS aR) (hb : Below w.heap.size w w') : Errs w' aE aS aR :=
  ⟨(hb.cell (World.block_lt_of_cell? w _ h.e)).trans h.e, (hb.cell (World.block_lt_of_cell? w _ h.s)).trans h.s, (hb.cell (World.block_lt_of_cell? w _ h.r)).trans h.r⟩
theorem RetYes.mk {w w' : World} (h : Below w.heap.size w w') : RetYes w (.returned (.bool true)) w' := ⟨rfl, h⟩
theorem below_drewN {B : Nat} {a w : World} (h : Below B a w) (n : Nat) : Below B a (w.drewN n) := ⟨h.os, h.tape, h.output, h.size, h.block⟩
theorem sameB_self (l : List UInt8) : sameB l l = true := decide_eq_true rfl

set_option maxRecDepth 100000 in
set_option maxHeartbeats 1000000 in
theorem puts_short (A : Option Addr) (n c : Nat) (x : Int) (s : ByteArray) (w : World) (h : 100 < n ∨ 100 < s.size) :
    Calls Tryd.prog 3 #[.slice A n c, .int .i64 x, .string s] w (RetYes w) := by
  by_cases h1 : 100 < n
  · have hd : decide ((100 : Int) < (n : Int)) = true := decide_eq_true (by omega)
    go_enter Tryd.func3, Tryd.ntmps3
    go_wp2_with fail
    refine (first_any w).mono ?_
    rintro e w1 ⟨rfl, hB⟩
    go_wp2
    go_ret
    exact RetYes.mk hB
  · have hd : decide ((100 : Int) < (n : Int)) = false := decide_eq_false (by omega)
    have hd2 : decide ((100 : Int) < (s.size : Int)) = true := decide_eq_true (by omega)
    go_enter Tryd.func3, Tryd.ntmps3
    go_wp2_with fail
    refine (first_any w).mono ?_
    rintro e w1 ⟨rfl, hB⟩
    go_wp2
    go_ret
    exact RetYes.mk hB

/-- A list that lies below what is new stays. -/
structure Lies (w : World) (A : Option Addr) (l : List UInt8) : Prop where
  str : Str w w.heap.size A l
theorem Lies.later {w w' : World} {A : Option Addr} {l : List UInt8} (h : Lies w A l) (hC : Below w.heap.size w w') : Lies w' A l := ⟨(h.str.below hC).more hC.size⟩
theorem Lies.drewN {w : World} {A : Option Addr} {l : List UInt8} (h : Lies w A l) (n : Nat) : Lies (w.drewN n) A l := ⟨h.str.keep fun _ _ => rfl⟩
theorem Rd.later {w w' : World} {g : Nat} {l : List UInt8} {k : Nat} {er : Value} (h : Rd w g l k er) (hC : Below w.heap.size w w') : Rd w' g l k er := by
  obtain ⟨A, n, c, hb, hn, hs, r⟩ := h
  have hlt := Blk.lt hb
  exact ⟨A, n, c, Blk.below hb hC hlt, hn, hs.keep fun p hp => hC.cell (by omega), r⟩
theorem Rd.drewN {w : World} {g : Nat} {l : List UInt8} {k : Nat} {er : Value} (h : Rd w g l k er) (n : Nat) : Rd (w.drewN n) g l k er := by
  obtain ⟨A, m, c, hb, hn, hs, r⟩ := h
  exact ⟨A, m, c, hb, hn, hs.keep fun _ _ => rfl, r⟩

theorem numOf_enc (x : Int) (rest : List UInt8) (lo hi : Int) (h1 : -9223372036854775808 ≤ x) (h2 : x ≤ 9223372036854775807) (h3 : lo ≤ x) (h4 : x ≤ hi) : numOf (enc x ++ rest) lo hi = ⟨0, x, (enc x).length⟩ := by
  unfold numOf
  rw [dec_enc x h1 h2 rest]
  dsimp only
  rw [if_pos rfl, unzz_zz, if_neg (by omega)]
theorem textOf_enc (t rest : List UInt8) (m : Int) (h : (t.length : Int) ≤ m) (hm : m ≤ 4294967296) : textOf (enc (t.length : Int) ++ t ++ rest) m = ⟨0, t, (enc (t.length : Int)).length + t.length⟩ := by
  unfold textOf
  rw [List.append_assoc, numOf_enc (t.length : Int) (t ++ rest) 0 m (by omega) (by omega) (by omega) h]
  dsimp only
  rw [if_pos rfl, if_neg (by simp; omega)]
  simp

/-- What reading leaves, where all is well. -/
def RetRead (w : World) (g : Nat) (l : List UInt8) (k : Nat) (v : Value) (e : Ending) (w' : World) : Prop := e = .returned v ∧ w.grownBy w' (some g) ∧ Rd w' g l k .nilIface
theorem num_read (g : Nat) (l rest : List UInt8) (k k' : Nat) (x lo hi : Int) (w : World) (aE aS aR : Addr) (hr : Rd w g l k .nilIface) (he : Errs w aE aS aR) (hl : l.drop k = enc x ++ rest) (hk : k' = k + (enc x).length)
    (h1 : -9223372036854775808 ≤ x) (h2 : x ≤ 9223372036854775807) (h3 : lo ≤ x) (h4 : x ≤ hi) :
    Calls Tryd.prog 17 #[.pointer (some ⟨g, 0, none⟩), .int .i64 lo, .int .i64 hi] w (RetRead w g l k' (.int .i64 x)) := by
  have h := num_ok g l k lo hi w aE aS aR hr he
  rw [hl, numOf_enc x rest lo hi h1 h2 h3 h4] at h
  refine h.mono fun e w' ⟨he, hg, hc⟩ => ⟨he, hg, ?_⟩
  rcases hc with ⟨_, hr'⟩ | ⟨hc, _⟩
  · rw [hk]; exact hr'
  · exact absurd rfl hc
theorem text_read (g : Nat) (l t rest : List UInt8) (k k' : Nat) (m : Int) (w : World) (aE aS aR : Addr) (hr : Rd w g l k .nilIface) (he : Errs w aE aS aR) (hl : l.drop k = enc (t.length : Int) ++ t ++ rest) (hk : k' = k + ((enc (t.length : Int)).length + t.length))
    (h1 : (t.length : Int) ≤ m) (hm : m ≤ 4294967296) :
    Calls Tryd.prog 18 #[.pointer (some ⟨g, 0, none⟩), .int .i64 m] w (RetRead w g l k' (.string ⟨t.toArray⟩)) := by
  have h := text_ok g l k m w aE aS aR hr he hm
  rw [hl, textOf_enc t rest m h1 hm] at h
  refine h.mono fun e w' ⟨he, hg, hc⟩ => ⟨he, hg, ?_⟩
  rcases hc with ⟨_, hr'⟩ | ⟨hc, _⟩
  · rw [hk]; exact hr'
  · exact absurd rfl hc

theorem left_val (g : Nat) (l : List UInt8) (k : Nat) (er : Value) (w : World) (v : Int) (hr : Rd w g l k er) (hv : v = ((l.length - k : Nat) : Int)) :
    Calls Tryd.prog 19 #[.pointer (some ⟨g, 0, none⟩)] w fun e w' => e = .returned (.int .i64 v) ∧ ∃ m, w' = w.drewN m := by
  subst hv; exact left_any g l k er w hr

set_option maxRecDepth 100000 in
set_option maxHeartbeats 4000000 in
theorem puts_long (A : Option Addr) (n c : Nat) (l : List UInt8) (x : Int) (s : ByteArray) (w : World) (aE aS aR : Addr) (hn : n = l.length) (hnl : n ≤ 100) (hsl : s.size ≤ 100) (hs : Str w w.heap.size A l) (he : Errs w aE aS aR)
    (h1 : -9223372036854775808 ≤ x) (h2 : x ≤ 9223372036854775807) :
    Calls Tryd.prog 3 #[.slice A n c, .int .i64 x, .string s] w (RetYes w) := by
  have hd : decide ((100 : Int) < (n : Int)) = false := decide_eq_false (by omega)
  have hd2 : decide ((100 : Int) < (s.size : Int)) = false := decide_eq_false (by omega)
  have HN := Lib.hid hn
  have a0 : Lies w A l := ⟨hs⟩
  have hsd : s.data.toList.length = s.size := by simp
  have HSD := Lib.hid hsd
  clear hn hs hsd
  go_enter Tryd.func3, Tryd.ntmps3
  go_wp2_with fail
  refine (first_any w).mono ?_
  rintro e w1 ⟨rfl, hB1⟩
  have a1 := a0.later hB1
  go_wp2_with fail
  refine (bytes_any A n c l w1 HN.out (by omega) a1.str).mono ?_
  rintro e w2 ⟨A2, n2, c2, rfl, HN2, ho2, hC2⟩
  have hB2 := hB1.trans (hC2.mono hB1.size)
  have a2 := a1.later hC2
  have b2 : Lies w2 A2 l := ⟨ho2.str⟩
  go_wp2_with fail
  refine (put_any A n c l x w2 HN.out (by omega) a2.str h1 h2).mono ?_
  rintro e w3 ⟨A3, n3, c3, rfl, HN3, ho3, hC3⟩
  have hB3 := hB2.trans (hC3.mono hB2.size)
  have a3 := a2.later hC3
  have b3 := b2.later hC3
  have c3' : Lies w3 A3 (l ++ enc x) := ⟨ho3.str⟩
  clear ho2 ho3 a0 a1 a2 b2 hC2 hC3
  go_wp2_with fail
  refine (putText_any A n c l _ s w3 HN.out (by omega) a3.str (by omega) rfl).mono ?_
  rintro e w4 ⟨A4, n4, c4, rfl, HN4, ho4, hC4⟩
  have hB4 := hB3.trans (hC4.mono hB3.size)
  have a4 := a3.later hC4
  have b4 := b3.later hC4
  have c4' := c3'.later hC4
  have d4 : Lies w4 A4 (l ++ enc (s.size : Int) ++ s.data.toList) := ⟨ho4.str⟩
  clear ho4 a3 b3 c3' hC4
  go_wp2_with fail
  refine (put_any none 0 0 [] x w4 rfl (by omega) Str.nil h1 h2).mono ?_
  rintro e w5 ⟨A5, n5, c5, rfl, HN5, ho5, hC5⟩
  have hB5 := hB4.trans (hC5.mono hB4.size)
  have a5 := a4.later hC5
  have b5 := b4.later hC5
  have c5' := c4'.later hC5
  have d5 := d4.later hC5
  clear a4 b4 c4' d4 hC5
  have hn5 : n5 ≤ 10 := by have := HN5.out; have := enc_length x; simp at *; omega
  go_wp2_with fail
  refine (putText_any A5 n5 c5 _ _ s w5 HN5.out (by omega) ho5.str (by omega) rfl).mono ?_
  rintro e w6 ⟨A6, n6, c6, rfl, HN6, ho6, hC6⟩
  have hB6 := hB5.trans (hC6.mono hB5.size)
  have a6 := a5.later hC6
  have b6 := b5.later hC6
  have c6' := c5'.later hC6
  have d6 := d5.later hC6
  clear a5 b5 c5' d5 hC6 ho5
  have hn6 : n6 ≤ 120 := by
    have h := HN6.out; have := enc_length x; have := enc_length (s.size : Int); have := HSD.out
    simp only [List.length_append, List.nil_append] at h
    omega
  go_wp2_with fail
  refine (newReader_any A6 n6 c6 _ w6 HN6.out (by omega) ho6.str).mono ?_
  rintro e w7 ⟨g, rfl, hR7, _, hg, hC7⟩
  have hB7 := hB6.trans (hC7.mono hB6.size)
  have a7 := a6.later hC7
  have b7 := b6.later hC7
  have c7' := c6'.later hC7
  have d7 := d6.later hC7
  clear a6 b6 c6' d6 hC7 ho6
  have hn3 : n3 ≤ 110 := by have h := HN3.out; have := HN.out; have := enc_length x; simp only [List.length_append] at h; omega
  have hn4 : n4 ≤ 210 := by have h := HN4.out; have := HN.out; have := HSD.out; have := enc_length (s.size : Int); simp only [List.length_append] at h; omega
  go_wp2_with fail
  refine (refPut_any A n c l x w7 HN.out (by omega) a7.str h1 h2).mono ?_
  rintro e w8 ⟨A8, n8, c8, rfl, HN8, ho8, hC8⟩
  have hB8 := hB7.trans (hC8.mono hB7.size)
  have a8 := a7.later hC8
  have b8 := b7.later hC8
  have c8' := c7'.later hC8
  have d8 := d7.later hC8
  have r8 := hR7.later hC8
  clear a7 b7 c7' d7 hC8 hR7
  go_wp2_with fail
  refine (same_any A3 A8 n3 n8 c3 c8 _ _ w8 _ _ HN3.out HN8.out (by omega) c8'.str ho8.str).mono ?_
  rintro e w9 ⟨rfl, m9, rfl⟩
  rw [sameB_self]
  have a9 := a8.drewN m9
  have b9 := b8.drewN m9
  have d9 := d8.drewN m9
  have r9 := r8.drewN m9
  have hB9 := below_drewN hB8 m9
  clear a8 b8 c8' d8 r8 ho8 HN8
  go_wp2_with fail
  refine (refPutText_any A n c l _ s _ HN.out (by omega) a9.str (by omega) rfl).mono ?_
  rintro e w10 ⟨A10, n10, c10, rfl, HN10, ho10, hC10⟩
  have hB10 := hB9.trans (hC10.mono hB9.size)
  have a10 := a9.later hC10
  have b10 := b9.later hC10
  have d10 := d9.later hC10
  have r10 := r9.later hC10
  clear a9 b9 d9 hC10 r9
  go_wp2_with fail
  refine (same_any A4 A10 n4 n10 c4 c10 _ _ w10 _ _ HN4.out HN10.out (by omega) d10.str ho10.str).mono ?_
  rintro e w11 ⟨rfl, m11, rfl⟩
  rw [sameB_self]
  have a11 := a10.drewN m11
  have b11 := b10.drewN m11
  have r11 := r10.drewN m11
  have hB11 := below_drewN hB10 m11
  clear a10 b10 d10 r10 ho10 HN10
  go_wp2_with fail
  refine (same_any A A2 n n2 c c2 _ _ _ _ _ HN.out HN2.out (by omega) a11.str b11.str).mono ?_
  rintro e w12 ⟨rfl, m12, rfl⟩
  rw [sameB_self]
  have r12 := r11.drewN m12
  have hB12 := below_drewN hB11 m12
  clear a11 b11 r11
  rw [World.drewN_drewN] at r12 hB12
  have hgw : w.heap.size ≤ g := Nat.le_trans hB6.size hg
  have HL : Hid (([] ++ enc x ++ enc (s.size : Int) ++ s.data.toList : List UInt8) = enc x ++ (enc (s.size : Int) ++ s.data.toList)) := Lib.hid (by simp)
  go_wp2_with fail
  refine (num_read g _ (enc (s.size : Int) ++ s.data.toList) 0 _ x _ _ _ aE aS aR r12 (he.below hB12) (by rw [List.drop_zero]; exact HL.out) rfl h1 h2 h1 h2).mono ?_
  rintro e w13 ⟨rfl, hG13, r13⟩
  have hB13 := grown_below hB12 hG13 hB12.size hgw
  clear hG13 r12
  go_wp2_with fail
  refine (text_read g _ s.data.toList [] _ _ _ w13 aE aS aR r13 (he.below hB13) ?hdrop rfl (by have := HSD.out; omega) (by omega)).mono ?_
  case hdrop =>
    rw [HL.out, HSD.out, Nat.zero_add, List.append_nil]
    simp
  rintro e w14 ⟨rfl, hG14, r14⟩
  have hB14 := grown_below hB13 hG14 hB13.size hgw
  clear hG14 r13
  go_wp2_with fail
  refine (left_val g _ _ _ w14 0 r14 ?hleft).mono ?_
  case hleft => rw [HL.out, HSD.out]; simp only [List.length_append, HSD.out]; omega
  rintro e w15 ⟨rfl, m15, rfl⟩
  have r15 := r14.drewN m15
  have hB15 := below_drewN hB14 m15
  clear r14
  go_wp2_with fail
  refine (err_nil g _ _ _ r15).mono ?_
  rintro e w16 ⟨rfl, rfl⟩
  go_wp2
  go_ret
  exact RetYes.mk hB15
end Go.Proofs.YtehfcobceeeloaaDoor
