/-
  The walks of wire's writing functions: zigzag, copyWithRoom, appendNum, Put, PutText, NewReader. Conditions: each theorem's own premises.
-/
import Derived.Test.YtmpklljiddggpaaGreatDoorQBits
import Derived.Lib.AppendStr
namespace Go.Proofs.YtmpklljiddggpaaGreatDoor
open Go.RowKit


set_option maxHeartbeats 400000 in
theorem zigzag_any (n : Int) (w : World) (h1 : -9223372036854775808 ≤ n) (h2 : n ≤ 9223372036854775807) :
    Calls Tryz.prog 113 #[.int .i64 n] w fun e w' => e = .returned (.int .u64 (zz n : Int)) ∧ w = w' := by
  by_cases h : n < 0
  · go_enter Tryz.func113, Tryz.ntmps113
    go_wp2
    all_goals (go_ret; exact ⟨ret_int (zz_neg n h1 (by omega)), rfl⟩)
  · go_enter Tryz.func113, Tryz.ntmps113
    go_wp2
    go_ret
    exact ⟨ret_int (zz_pos n (by omega)), rfl⟩

theorem made_size (n : Nat) (i0 : TypeInfo) (h : i0.size = 1) : (madeCells (Value.int .u8 0).cells (n * i0.size)).toList.length = n := by
  rw [Array.length_toList, size_madeCells, h, Nat.mul_one]
theorem own_spliced {W w : World} {base g : Nat} {l : List UInt8} {cur : List Value} {c : Nat} (hb : base ≤ g) (hc : c ≤ maxLen) (hlc : l.length ≤ c) (hcur : cur.length = c)
    (hg : W.heap[g]? = some (.cells (splice cur 0 (l.map byt)).toArray 5 (0, 0))) (hB : Below base w W) :
    RetBytes w base l (.returned (.slice (some ⟨g, 0, none⟩) l.length c)) W := by
  refine ⟨_, _, _, rfl, Lib.hid rfl, ⟨by simp, .inr ⟨g, c, _, rfl, hb, hg, hlc, hc, ?_, ?_⟩⟩, hB⟩
  · rw [List.size_toArray, length_splice _ _ _ (by simp; omega), hcur, Nat.mul_one]
  · simp [splice]

theorem Str.source {w : World} {A : Option Addr} {l : List UInt8} (hs : Str w w.heap.size A l) (o : Obj) (hp : 0 < l.length) :
    ∃ ad, A = some ad ∧ ∀ (j : Nat) (v : Value), (l.map byt)[j]? = some v → (w.alloc o).cell? (ad.add j) = some v := by
  obtain ⟨ad, e, hb, hc⟩ := hs.here (by rintro rfl; simp at hp)
  refine ⟨ad, e, fun j v hv => ?_⟩
  rw [List.getElem?_map] at hv
  obtain ⟨u, hu, rfl⟩ := Option.map_eq_some_iff.1 hv
  rw [World.cell?_alloc_lt w _ _ (by rw [add_block]; exact hb)]
  exact hc j u hu

set_option maxHeartbeats 400000 in
theorem copy_any (A : Option Addr) (n c : Nat) (l : List UInt8) (room : Int) (w : World) (hn : n = l.length) (hr0 : 0 ≤ room) (hr : room ≤ 4294967296) (hl : n ≤ 4294967296) (hs : Str w w.heap.size A l) :
    Calls Tryz.prog 86 #[.slice A n c, .int .i64 room] w (RetBytes w w.heap.size l) := by
  obtain ⟨room, rfl⟩ := Int.eq_ofNat_of_zero_le hr0
  obtain ⟨i0, hi, hz0, hz1, hz2⟩ := info_parts Tryz.info8
  have hmk := fun W => run_make (P := Tryz.prog) W 88 5 i0 (.int .u8 0) Tryz.underlying88 hi hz0 .i64 .i64 (n : Int) ((n : Int) + (room : Int)) (by omega) (by omega) (by rw [hz2]; omega) (by omega)
  rw [show ((n : Int) + (room : Int)).toNat = n + room from by omega, Int.toNat_natCast] at hmk
  have hcs := made_size (n + room) i0 hz1
  obtain ⟨cur, hcur⟩ : ∃ cur, cur = (madeCells (Value.int .u8 0).cells ((n + room) * i0.size)).toList := ⟨_, rfl⟩
  rw [show madeCells (Value.int .u8 0).cells ((n + room) * i0.size) = cur.toArray from by rw [hcur]] at hmk
  rw [← hcur] at hcs
  have HC := Lib.hid hcs
  have HN := Lib.hid hn
  clear hcur hcs hn
  have hsz : (Tryz.prog.info? 5).map (·.size) = some 1 := by rw [hi]; simp [hz1]
  go_enter Tryz.func86, Tryz.ntmps86
  go_wp2_with (refine wpList_copy_splice rfl (.tmp 13) (.tmp 14) 88 88 rfl 5 Tryz.underlying88 hsz _ _ _ _ _ _ rfl rfl w.heap.size 0 cur 5 ?c1 (l.map byt) ?c2 ?c3 ?c4 ?c5 w.heap.size w ?c6 (Nat.le_refl _) ?_)
  case c1 => exact heap_alloc_new w _
  case c2 =>
    have e1 := HN.out
    simp [e1]
  case c3 =>
    intro hp
    have hx := hs.source (.cells cur.toArray 5) (by simpa using hp)
    first | exact ⟨rfl, hx⟩ | exact hx | simpa using hx
  case c4 =>
    have e1 := HN.out
    have e2 := HC.out
    simp; omega
  case c5 => exact byt_one l
  case c6 => exact (Below.refl _ _).alloc (Nat.le_refl _) _
  intro w1 hg hb
  go_wp2
  go_ret
  have e1 := HN.out
  have e2 := HC.out
  subst e1
  exact own_spliced (Nat.le_refl _) (by unfold maxLen; omega) (by omega) e2 hg.out hb

def intOf : Value → Int | .int _ q => q | _ => 0
/-- Where appendNum's loop stands. -/
def AppRel (w : World) (base : Nat) (l : List UInt8) (x : Int) (v z : Value) (wr : World) : Prop :=
  ∃ (f Z : Nat) (L done : List UInt8) (A : Option Addr) (c : Nat), v = .slice A L.length c ∧ z = .int .u64 (Z : Int) ∧ Own wr base A c L ∧ Below base w wr ∧
    L = l ++ done ∧ done.length + f = 10 ∧ 0 < f ∧ Z * pw done.length < 18446744073709551616 ∧ enc x = done ++ encF f Z

theorem appRel_start {w : World} {base : Nat} {l : List UInt8} {x : Int} {A : Option Addr} {n c : Nat} (hn : n = l.length) (ho : Own w base A c l) (h1 : -9223372036854775808 ≤ x) (h2 : x ≤ 9223372036854775807) :
    AppRel w base l x (.slice A n c) (.int .u64 (zz x : Int)) w :=
  ⟨10, zz x, l, [], A, c, by rw [hn], rfl, ho, Below.refl _ _, by simp, rfl, by omega, by simpa [pw_zero] using zz_lt x h1 h2, rfl⟩
theorem appRel_bounds {Z f : Nat} {done : List UInt8} (hd : done.length + f = 10) (hZ : Z * pw done.length < 18446744073709551616) : Z < 18446744073709551616 ∧ (128 ≤ Z → 2 ≤ f) := by
  have hp := pw_pos done.length
  refine ⟨Nat.lt_of_le_of_lt (Nat.le_mul_of_pos_right Z hp) hZ, fun h => ?_⟩
  rcases Nat.lt_or_ge f 2 with h2 | h2
  · have h9 : pw 9 ≤ pw done.length := Nat.pow_le_pow_right (by omega) (by omega)
    have e : pw 9 = 9223372036854775808 := by decide
    have := Nat.mul_le_mul h h9
    omega
  · exact h2
theorem appRel_step {w w1 : World} {base : Nat} {l L done : List UInt8} {x : Int} {f Z : Nat} {v' : Value} (hB : Below base w w1) (hL : L = l ++ done) (hd : done.length + f = 10)
    (hZ : Z * pw done.length < 18446744073709551616) (he : enc x = done ++ encF f Z) (hz : 128 ≤ Z)
    (ho : w1.ownsRow base 5 1 v' (L.length + 1) (L.map byt ++ [.int .u8 (((UInt8.ofNat (Z % 128 + 128)).toNat : Nat) : Int)])) :
    AppRel w base l x v' (.int .u64 ((Z / 128 : Nat) : Int)) w1 := by
  obtain ⟨A, c, rfl, ho'⟩ := own_of_row (news := [UInt8.ofNat (Z % 128 + 128)]) rfl ho
  have hf := (appRel_bounds hd hZ).2 hz
  obtain ⟨f, rfl⟩ : ∃ f', f = f' + 1 := ⟨f - 1, by omega⟩
  refine ⟨f, Z / 128, _, done ++ [UInt8.ofNat (Z % 128 + 128)], A, c, rfl, rfl, ho', hB, by rw [hL, List.append_assoc], by simp; omega, by omega, ?_, ?_⟩
  · rw [List.length_append, List.length_singleton, pw_succ]
    refine Nat.lt_of_le_of_lt ?_ hZ
    rw [Nat.mul_comm (pw _) 128, ← Nat.mul_assoc]
    exact Nat.mul_le_mul_right _ (by omega)
  · rw [he, encF, if_neg (by omega), List.append_assoc]; rfl
theorem appRel_end {w w1 : World} {base : Nat} {l L done : List UInt8} {x : Int} {f Z : Nat} {v' : Value} (hB : Below base w w1) (hL : L = l ++ done) (hf : 0 < f) (he : enc x = done ++ encF f Z) (hz : Z < 128)
    (ho : w1.ownsRow base 5 1 v' (L.length + 1) (L.map byt ++ [.int .u8 (((UInt8.ofNat Z).toNat : Nat) : Int)])) : RetBytes w base (l ++ enc x) (.returned v') w1 := by
  obtain ⟨A, c, rfl, ho'⟩ := own_of_row (news := [UInt8.ofNat Z]) rfl ho
  obtain ⟨f, rfl⟩ : ∃ f', f = f' + 1 := ⟨f - 1, by omega⟩
  rw [encF, if_pos hz] at he
  have e : l ++ enc x = L ++ [UInt8.ofNat Z] := by rw [he, hL, List.append_assoc]
  rw [e]
  exact ⟨A, _, c, rfl, Lib.hid rfl, ho', hB⟩

set_option maxRecDepth 100000 in
set_option maxHeartbeats 400000 in
theorem appendNum_any (base : Nat) (A : Option Addr) (n c : Nat) (l : List UInt8) (x : Int) (w : World) (hn : n = l.length) (hl : n ≤ 4294967296) (hbase : base ≤ w.heap.size)
    (h1 : -9223372036854775808 ≤ x) (h2 : x ≤ 9223372036854775807) (ho : Own w base A c l) :
    Calls Tryz.prog 94 #[.slice A n c, .int .i64 x] w (RetBytes w base (l ++ enc x)) := by
  obtain ⟨i0, hi, hz0, hz1, hz2⟩ := info_parts Tryz.info8
  have HN := Lib.hid hn
  clear hn
  go_enter Tryz.func94, Tryz.ntmps94
  go_wp2_with (go_at_call 113; refine (zigzag_any _ _ (by omega) (by omega)).mono ?_; rintro e w' ⟨rfl, rfl⟩)
  go_loopw [0, 5] (fun v z wr => AppRel w base l x v z wr) (fun _ z _ => (intOf z).toNat)
  case atStart => exact appRel_start HN.out ho h1 h2
  case round =>
    have hll : l.length ≤ 4294967296 := by have := HN.out; omega
    clear ho HN
    obtain ⟨f, Z, L, done, A, c, rfl, rfl, ho, hB, hL, hd, hf, hZ, he⟩ := hrel
    have hb := appRel_bounds hd hZ
    have hLl : L.length ≤ 4294967306 := by rw [hL]; simp; omega
    have H := Lib.hid hL; have H2 := Lib.hid hd; have H3 := Lib.hid hZ; have H4 := Lib.hid he
    have hbs : base ≤ wr.heap.size := Nat.le_trans hbase hB.size
    obtain ⟨u, hu⟩ : ∃ u : UInt8, u = UInt8.ofNat (Z % 128 + 128) := ⟨_, rfl⟩
    have hor := or128 Z
    rw [← hu] at hor
    have HU := Lib.hid hu
    clear hb hL hd hZ he h1 h2 hu
    by_cases hz : 128 ≤ Z
    · have hdz : decide ((128 : Int) ≤ (Z : Int)) = true := decide_eq_true (by omega)
      go_wp2_with (at_builtin; refine wpList_append_own _ rfl _ _ 88 rfl base 5 i0 (.int .u8 0) 1 1 Tryz.underlying88 hi hz0 hz1 hz2 rfl (by decide) _ _ _ rfl (ho.alloc _) ⟨wr.heap.size, 0, none⟩ 1 1 [.int .u8 (u.toNat : Int)] rfl rfl ?c1 ?c2 ?c3 ?c4 ?c5 ?_)
      case c1 =>
        intro j v hj
        match j, hj with
        | 0, hj => simp at hj; subst hj; simp [Addr.add]
      case c2 => intro v hv; simp at hv; subst hv; rfl
      case c3 => unfold maxLen; omega
      case c4 => omega
      case c5 => simp; omega
      intro v' w1 hown' hgrow _
      have hB1 : Below base w w1 := ((hB.alloc hbs _).grown hgrow (by simp; omega) (fun k hk => (Own.block ho k hk).1))
      have R := appRel_step hB1 H.out H2.out H3.out H4.out hz (by rw [← HU.out]; exact hown')
      clear hown' hgrow
      go_wp2
      go_roundw
      case rel => exact R
      case measure => simp [intOf]; omega
    · have hdz : decide ((128 : Int) ≤ (Z : Int)) = false := decide_eq_false (by omega)
      go_wp2_with (at_builtin; refine wpList_append_own _ rfl _ _ 88 rfl base 5 i0 (.int .u8 0) 1 1 Tryz.underlying88 hi hz0 hz1 hz2 rfl (by decide) _ _ _ rfl (ho.alloc _) ⟨wr.heap.size, 0, none⟩ 1 1 [.int .u8 (Z : Int)] rfl rfl ?d1 ?d2 ?d3 ?d4 ?d5 ?_)
      case d1 =>
        intro j v hj
        match j, hj with
        | 0, hj => simp at hj; subst hj; simp [Addr.add]
      case d2 => intro v hv; simp at hv; subst hv; rfl
      case d3 => unfold maxLen; omega
      case d4 => omega
      case d5 => simp; omega
      intro v' w1 hown' hgrow _
      have hB1 : Below base w w1 := ((hB.alloc hbs _).grown hgrow (by simp; omega) (fun k hk => (Own.block ho k hk).1))
      have R := appRel_end hB1 H.out hf H4.out (by omega) (by rw [low8 Z (by omega)]; exact hown')
      clear hown' hgrow
      go_wp2
      go_ret
      exact R

set_option maxHeartbeats 400000 in
theorem put_any (A : Option Addr) (n c : Nat) (l : List UInt8) (x : Int) (w : World) (hn : n = l.length) (hl : n ≤ 4294967296) (hs : Str w w.heap.size A l)
    (h1 : -9223372036854775808 ≤ x) (h2 : x ≤ 9223372036854775807) :
    Calls Tryz.prog 78 #[.slice A n c, .int .i64 x] w (RetBytes w w.heap.size (l ++ enc x)) := by
  have HN := Lib.hid hn
  clear hn
  go_enter Tryz.func78, Tryz.ntmps78
  go_wp2_with fail
  refine (copy_any A n c l _ w HN.out (by omega) (by omega) hl hs).mono ?_
  rintro e w1 ⟨A1, n1, c1, rfl, HN1, ho, hB⟩
  have hll : n1 ≤ 4294967296 := by have := HN.out; have := HN1.out; omega
  go_wp2_with fail
  refine (appendNum_any w.heap.size A1 n1 c1 l x w1 HN1.out hll hB.size h1 h2 ho).mono ?_
  rintro e w2 ⟨A2, n2, c2, rfl, HN2, ho2, hB2⟩
  go_wp2
  go_ret
  exact ⟨A2, n2, c2, rfl, HN2, ho2, hB.trans hB2⟩

set_option maxHeartbeats 400000 in
theorem putText_any (A : Option Addr) (n c : Nat) (l L : List UInt8) (s : ByteArray) (w : World) (hn : n = l.length) (hl : n ≤ 2147483648) (hs : Str w w.heap.size A l) (hsl : s.size ≤ 2147483648)
    (hL : L = l ++ enc (s.size : Int) ++ s.data.toList) :
    Calls Tryz.prog 93 #[.slice A n c, .string s] w (RetBytes w w.heap.size L) := by
  obtain ⟨i0, hi, hz0, hz1, hz2⟩ := info_parts Tryz.info8
  have HN := Lib.hid hn
  have HL := Lib.hid hL
  clear hn hL
  go_enter Tryz.func93, Tryz.ntmps93
  go_wp2_with fail
  refine (copy_any A n c l _ w HN.out (by omega) (by omega) (by omega) hs).mono ?_
  rintro e w1 ⟨A1, n1, c1, rfl, HN1, ho, hB⟩
  have hll : n1 ≤ 4294967296 := by have := HN.out; have := HN1.out; omega
  go_wp2_with fail
  refine (appendNum_any w.heap.size A1 n1 c1 l _ w1 HN1.out hll hB.size (by omega) (by omega) ho).mono ?_
  rintro e w2 ⟨A2, n2, c2, rfl, HN2, ho2, hB2⟩
  obtain ⟨l2, hl2⟩ : ∃ l2, l2 = l ++ enc (s.size : Int) := ⟨_, rfl⟩
  rw [← hl2] at ho2 HN2
  have h2l : n2 ≤ 2147483658 := by
    have := HN.out; have := HN1.out; have h3 := HN2.out; have := enc_length (s.size : Int)
    rw [hl2, List.length_append] at h3; omega
  have H2 := Lib.hid hl2
  clear hl2
  have hB3 := hB.trans hB2
  have hbs := hB3.size
  have ho3 : w2.ownsRow w.heap.size 5 1 (.slice A2 n2 c2) n2 (l2.map byt) := by rw [HN2.out]; exact ho2
  go_wp2_with (at_builtin; refine Lib.wpList_append_own_string _ rfl (.tmp 14) (.tmp 15) 88 9 rfl w.heap.size 5 i0 Tryz.underlying88 Tryz.underlying9 hi hz0 hz1 hz2 _ _ _ rfl ho3 s rfl ?c1 ?c2 hbs ?_)
  case c1 => unfold maxLen; omega
  case c2 => omega
  intro v' w3 hown' hgrow _
  have hB4 : Below w.heap.size w w3 := hB3.grown hgrow hbs (fun k hk => (World.ownsRow.lt ho3 k hk).1)
  have R : RetBytes w w.heap.size L (.returned v') w3 := by
    obtain ⟨A3, c3, rfl, ho4⟩ := own_of_row (news := s.data.toList) (by rw [HN2.out]; rfl) hown'
    rw [HL.out, ← H2.out]
    exact ⟨A3, _, c3, rfl, Lib.hid rfl, ho4, hB4⟩
  clear hown' hgrow
  go_wp2
  go_ret
  exact R

/-- A reader of these bytes, this far, with this error. -/
def Rd (w : World) (g : Nat) (l : List UInt8) (k : Nat) (er : Value) : Prop :=
  ∃ A n c, w.heap[g]? = some (.cells #[.slice A n c, .int .i64 (k : Int), er] 140 (0, 0)) ∧ n = l.length ∧ Str w g A l ∧ n ≤ c ∧ c ≤ maxLen ∧ k ≤ n ∧ n ≤ 4294967296
/-- The reader's list lies in no block below b. -/
def Low (w : World) (g b : Nat) : Prop :=
  ∀ (A : Option Addr) (n c : Nat) (x y : Value), w.heap[g]? = some (.cells #[.slice A n c, x, y] 140 (0, 0)) → ∀ ad, A = some ad → b ≤ ad.block
/-- What NewReader leaves. -/
def RetReader (w : World) (l : List UInt8) (e : Ending) (w' : World) : Prop :=
  ∃ g, e = .returned (.pointer (some ⟨g, 0, none⟩)) ∧ Rd w' g l 0 .nilIface ∧ Low w' g w.heap.size ∧ w.heap.size ≤ g ∧ Below w.heap.size w w'
set_option maxHeartbeats 400000 in
theorem newReader_any (A : Option Addr) (n c : Nat) (l : List UInt8) (w : World) (hn : n = l.length) (hl : n ≤ 4294967296) (hs : Str w w.heap.size A l) :
    Calls Tryz.prog 61 #[.slice A n c] w (RetReader w l) := by
  have HN := Lib.hid hn
  clear hn
  go_enter Tryz.func61, Tryz.ntmps61
  go_wp2_with fail
  refine (copy_any A n c l _ w HN.out (by omega) (by omega) hl hs).mono ?_
  rintro e w1 ⟨A1, n1, c1, rfl, HN1, ho, hB⟩
  go_wp2
  go_ret
  have hc := ho.cap
  rw [← HN1.out] at hc
  refine ⟨w1.heap.size, rfl, ⟨A1, n1, c1, heap_alloc_new w1 _, HN1.out, ?_, hc.1, hc.2, Nat.zero_le _, ?_⟩, ?_, hB.size, hB.alloc hB.size _⟩
  · exact ho.str.keep fun p hp => World.cell?_alloc_lt w1 _ p hp
  · have := HN.out; have := HN1.out; omega
  · intro A' n' c' x y hb ad hA
    have e := (heap_alloc_new w1 (.cells #[.slice A1 n1 c1, .int .i64 0, .nilIface] 140)).symm.trans hb
    simp only [Option.some.injEq, Obj.cells.injEq, Array.mk.injEq, List.cons.injEq, Value.slice.injEq] at e
    rcases ho.form with ⟨h0, _⟩ | ⟨g, h0, hbg, _⟩
    · rw [h0, hA] at e; cases e.1.1.1
    · rw [h0, hA] at e; cases e.1.1.1; exact hbg
end Go.Proofs.YtmpklljiddggpaaGreatDoor
