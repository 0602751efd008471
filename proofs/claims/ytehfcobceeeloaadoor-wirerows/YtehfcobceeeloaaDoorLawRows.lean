/-
  The walk of WireRows: for every slice of int64, every string and every int it answers true, and nothing old is turned. Conditions: the sentinel errors lie where the program's text lays them.
-/
import Derived.Test.YtehfcobceeeloaaDoorLawForms
import Derived.Test.YtehfcobceeeloaaDoorLawTwins
namespace Go.Proofs.YtehfcobceeeloaaDoor
open Go.RowKit

/-- Reading what is cut off within a number ends. -/
theorem dec_cut : ∀ (f k z X n : Nat), n < (encF f z).length → f + k = 10 → z * pw k < 18446744073709551616 → (0 < k → 0 < z) → dec X k ((encF f z).take n) = ⟨2, 0, 0⟩ := by
  intro f
  induction f with
  | zero => intro k z X n h; simp [encF] at h
  | succ f ih =>
    intro k z X n h hf hz hp
    rw [encF] at h ⊢
    by_cases hs : z < 128
    · rw [if_pos hs] at h ⊢
      have : n = 0 := by simpa using h
      subst this
      rfl
    · rw [if_neg hs] at h ⊢
      cases n with
      | zero => rfl
      | succ n =>
        rw [List.take_succ_cons, dec, ofNat_toNat (by omega)]
        have hk : k ≠ 9 := by
          rintro rfl
          have e : pw 9 = 9223372036854775808 := by decide
          rw [e] at hz; omega
        rw [if_neg (by omega), if_neg (by omega)]
        refine ih (k + 1) (z / 128) _ n (by simpa using h) (by omega) ?_ (by omega)
        rw [pw_succ]
        refine Nat.lt_of_le_of_lt ?_ hz
        rw [Nat.mul_comm (pw k) 128, ← Nat.mul_assoc]
        exact Nat.mul_le_mul_right _ (by omega)
theorem numOf_cut (x : Int) (n : Nat) (lo hi : Int) (h1 : -9223372036854775808 ≤ x) (h2 : x ≤ 9223372036854775807) (hn : n < (enc x).length) : numOf ((enc x).take n) lo hi = ⟨2, 0, 0⟩ := by
  have h := dec_cut 10 0 (zz x) 0 n hn rfl (by rw [pw_zero]; have := zz_lt x h1 h2; omega) (by omega)
  unfold numOf
  rw [show (enc x).take n = (encF 10 (zz x)).take n from rfl, h]
  rfl
theorem textOf_cut (t : List UInt8) (n : Nat) (m : Int) (hm : (t.length : Int) ≤ m) (hm2 : m ≤ 4294967296) (hn : n < (enc (t.length : Int)).length + t.length) : textOf ((enc (t.length : Int) ++ t).take n) m = ⟨2, [], 0⟩ := by
  rcases Nat.lt_or_ge n (enc (t.length : Int)).length with h | h
  · have e : (enc (t.length : Int) ++ t).take n = (enc (t.length : Int)).take n := by rw [List.take_append_of_le_length (by omega)]
    unfold textOf
    rw [e, numOf_cut _ n 0 m (by omega) (by omega) h]
    rfl
  · obtain ⟨j, rfl⟩ : ∃ j, n = (enc (t.length : Int)).length + j := ⟨n - (enc (t.length : Int)).length, by omega⟩
    have e : (enc (t.length : Int) ++ t).take ((enc (t.length : Int)).length + j) = enc (t.length : Int) ++ t.take j := by
      rw [List.take_length_add_append]
    unfold textOf
    rw [e, numOf_enc _ _ 0 m (by omega) (by omega) (by omega) hm]
    dsimp only
    rw [if_pos rfl, if_pos (by simp; omega)]

/-- All that was put, and where each ends. -/
def allOf (zs : List Int) (t : List UInt8) : List UInt8 := encL zs ++ enc (t.length : Int) ++ t
/-- Where the first k end. -/
def endAt (zs : List Int) (k : Nat) : Nat := (encL (zs.take k)).length
theorem endAt_succ (zs : List Int) (k : Nat) (hk : k < zs.length) : endAt zs (k + 1) = endAt zs k + (enc zs[k]).length := by
  unfold endAt; rw [encL_snoc zs k hk, List.length_append]
theorem endAt_zero (zs : List Int) : endAt zs 0 = 0 := rfl
theorem endAt_le (zs : List Int) (k : Nat) : endAt zs k ≤ (encL zs).length := encL_le zs k
theorem endAt_full (zs : List Int) : endAt zs zs.length = (encL zs).length := by unfold endAt; rw [List.take_length]
theorem allOf_drop (zs : List Int) (t : List UInt8) (k : Nat) (hk : k < zs.length) : (allOf zs t).drop (endAt zs k) = enc zs[k] ++ (encL (zs.drop (k + 1)) ++ (enc (t.length : Int) ++ t)) := by
  unfold allOf endAt
  rw [List.append_assoc, List.drop_append_of_le_length (encL_le zs k), encL_drop zs k hk, List.append_assoc]
theorem allOf_end (zs : List Int) (t : List UInt8) : (allOf zs t).drop (endAt zs zs.length) = enc (t.length : Int) ++ t := by
  rw [endAt_full]; unfold allOf
  rw [List.append_assoc, List.drop_left]
theorem allOf_length (zs : List Int) (t : List UInt8) : (allOf zs t).length = (encL zs).length + ((enc (t.length : Int)).length + t.length) := by
  unfold allOf; rw [List.append_assoc, List.length_append, List.length_append]

/-- What is read at the k-th, of the first c bytes: it fits. -/
theorem drop_take_fits (zs : List Int) (t : List UInt8) (k c : Nat) (hk : k < zs.length) (hc : endAt zs (k + 1) ≤ c) : ∃ rest, ((allOf zs t).take c).drop (endAt zs k) = enc zs[k] ++ rest := by
  rw [List.drop_take, allOf_drop zs t k hk]
  have h := endAt_succ zs k hk
  refine ⟨(encL (zs.drop (k + 1)) ++ (enc (t.length : Int) ++ t)).take (c - endAt zs k - (enc zs[k]).length), ?_⟩
  rw [List.take_append, List.take_of_length_le (by omega)]
/-- .. it does not. -/
theorem drop_take_cut (zs : List Int) (t : List UInt8) (k c : Nat) (hk : k < zs.length) (hc : c < endAt zs (k + 1)) : ((allOf zs t).take c).drop (endAt zs k) = (enc zs[k]).take (c - endAt zs k) := by
  rw [List.drop_take, allOf_drop zs t k hk]
  have h := endAt_succ zs k hk
  rw [List.take_append_of_le_length (by omega)]
theorem drop_take_text (zs : List Int) (t : List UInt8) (c : Nat) : ((allOf zs t).take c).drop (endAt zs zs.length) = (enc (t.length : Int) ++ t).take (c - endAt zs zs.length) := by
  rw [List.drop_take, allOf_end]

theorem Tryd.infoInt : (Tryd.prog.info? 3).map (fun i => (i.zero, i.size, i.bytes)) = some (some (.int .i64 0), 1, 8) := by kernel_rfl
/-- Ends, as values. -/
def endVals (zs : List Int) (k : Nat) : List Value := (List.range k).map fun i => .int .i64 ((endAt zs (i + 1) : Nat) : Int)
theorem endVals_length (zs : List Int) (k : Nat) : (endVals zs k).length = k := by simp [endVals]
theorem endVals_succ (zs : List Int) (k : Nat) : endVals zs (k + 1) = endVals zs k ++ [.int .i64 ((endAt zs (k + 1) : Nat) : Int)] := by
  simp [endVals, List.range_succ]

theorem owns_below {w w' : World} {base : Nat} {e : TypeId} {size : Nat} {v : Value} {n : Nat} {xs : List Value} (h : w.ownsRow base e size v n xs) (hb : Below w.heap.size w w') : w'.ownsRow base e size v n xs :=
  h.kept (row := none) ⟨hb.os, hb.tape, hb.output, hb.size, fun k hk _ => hb.block k hk⟩ (by cases v.ownBlock <;> simp)
theorem owns_base {w : World} {base base' : Nat} {e : TypeId} {size : Nat} {v : Value} {n : Nat} {xs : List Value} (h : w.ownsRow base e size v n xs) (hb : base' ≤ base) : w.ownsRow base' e size v n xs := by
  refine ⟨h.1, ?_⟩
  rcases h.2 with h2 | ⟨g, cap, cur, hv, hg, r⟩
  · exact .inl h2
  · exact .inr ⟨g, cap, cur, hv, Nat.le_trans hb hg, r⟩
/-- Rows of unlike element types lie apart. -/
theorem owns_apart {w : World} {b1 b2 : Nat} {e1 e2 : TypeId} {s1 s2 : Nat} {v1 v2 : Value} {n1 n2 : Nat} {x1 x2 : List Value} (h1 : w.ownsRow b1 e1 s1 v1 n1 x1) (h2 : w.ownsRow b2 e2 s2 v2 n2 x2) (hne : e1 ≠ e2) : v1.ownBlock = none ∨ v1.ownBlock ≠ v2.ownBlock := by
  rcases h1.2 with ⟨rfl, _⟩ | ⟨g1, cap1, cur1, rfl, _, hg1, _⟩
  · exact .inl rfl
  · right
    intro e
    rcases h2.2 with ⟨rfl, _⟩ | ⟨g2, cap2, cur2, rfl, _, hg2, _⟩
    · simp [Value.ownBlock] at e
    · have : g1 = g2 := by simpa [Value.ownBlock] using e
      subst this
      rw [hg1] at hg2
      simp only [Option.some.injEq, Obj.cells.injEq] at hg2
      exact hne hg2.2.1

/-- Where the first loop stands. -/
def RwRel1 (w : World) (zs : List Int) (v u i : Value) (wr : World) : Prop :=
  ∃ (k n c : Nat) (A : Option Addr) (L : List UInt8), k ≤ zs.length ∧ i = .int .i64 (k : Int) ∧ v = .slice A n c ∧ n = L.length ∧ L = encL (zs.take k) ∧ Own wr w.heap.size A c L ∧
    wr.ownsRow w.heap.size 3 1 u k (endVals zs k) ∧ Below w.heap.size w wr

/-- Where the second loop stands: the first i are read, all that stands behind P is still there. -/
def RwRel2 (w : World) (zs : List Int) (LK : List UInt8) (g h c9 n n3 : Nat) (at_ i : Value) (wr : World) : Prop :=
  ∃ (j P : Nat), j ≤ n + 1 ∧ i = .int .i64 (j : Int) ∧ at_ = .int .i64 (P : Int) ∧ (j ≤ n → P = endAt zs j) ∧ (n < j → P = n3) ∧ Rd wr g LK P .nilIface ∧
    wr.ownsRow w.heap.size 3 1 (.slice (some ⟨h, 0, none⟩) (n + 1) c9) (n + 1) (endVals zs n ++ [.int .i64 (n3 : Int)]) ∧ Below w.heap.size w wr
theorem owns_grown {w w' : World} {base : Nat} {e : TypeId} {size n c : Nat} {xs : List Value} {h g : Nat} (ho : w.ownsRow base e size (.slice (some ⟨h, 0, none⟩) n c) n xs) (hg : w.grownBy w' (some g)) (hne : h ≠ g) : w'.ownsRow base e size (.slice (some ⟨h, 0, none⟩) n c) n xs :=
  ho.kept hg (.inr (by simpa [Value.ownBlock] using hne))
theorem endVals_get (zs : List Int) (n n3 j : Nat) (hj : j < n) : (endVals zs n ++ [.int .i64 (n3 : Int)])[j]? = some (.int .i64 ((endAt zs (j + 1) : Nat) : Int)) := by
  rw [List.getElem?_append_left (by rw [endVals_length]; exact hj)]
  simp [endVals, hj]
theorem endVals_last (zs : List Int) (n n3 : Nat) : (endVals zs n ++ [.int .i64 (n3 : Int)])[n]? = some (.int .i64 (n3 : Int)) := by
  rw [List.getElem?_append_right (by rw [endVals_length]; exact Nat.le_refl _), endVals_length]; simp

set_option maxRecDepth 100000 in
set_option maxHeartbeats 1000000 in
theorem rows_short (A : Option Addr) (n c : Nat) (s : ByteArray) (x : Int) (w : World) (h : 20 < n ∨ 60 < s.size) :
    Calls Tryd.prog 6 #[.slice A n c, .string s, .int .i64 x] w (RetYes w) := by
  by_cases h1 : 20 < n
  · have hd : decide ((20 : Int) < (n : Int)) = true := decide_eq_true (by omega)
    go_enter Tryd.func6, Tryd.ntmps6
    go_wp2_with fail
    refine (first_any w).mono ?_
    rintro e w1 ⟨rfl, hB⟩
    go_wp2
    go_ret
    exact RetYes.mk hB
  · have hd : decide ((20 : Int) < (n : Int)) = false := decide_eq_false (by omega)
    have hd2 : decide ((60 : Int) < (s.size : Int)) = true := decide_eq_true (by omega)
    go_enter Tryd.func6, Tryd.ntmps6
    go_wp2_with fail
    refine (first_any w).mono ?_
    rintro e w1 ⟨rfl, hB⟩
    go_wp2
    go_ret
    exact RetYes.mk hB

set_option maxRecDepth 100000 in
set_option maxHeartbeats 8000000 in
theorem rows_long (A : Option Addr) (n c : Nat) (zs : List Int) (s : ByteArray) (x : Int) (w : World) (ads : List Addr) (hn : n = zs.length) (hnl : n ≤ 20) (hsl : s.size ≤ 60) (hs : Ints w w.heap.size A zs) (hS : Sents w ads) :
    Calls Tryd.prog 6 #[.slice A n c, .string s, .int .i64 x] w (RetYes w) := by
  obtain ⟨i0, hi, hz0, hz1, hz2⟩ := info_parts Tryd.infoInt
  have hd : decide ((20 : Int) < (n : Int)) = false := decide_eq_false (by omega)
  have hd2 : decide ((60 : Int) < (s.size : Int)) = false := decide_eq_false (by omega)
  have HN := Lib.hid hn
  have HS := Lib.hid hS
  have hsd : s.data.toList.length = s.size := by simp
  have HSD := Lib.hid hsd
  clear hn hS hsd
  go_enter Tryd.func6, Tryd.ntmps6
  go_wp2_with fail
  refine (first_any w).mono ?_
  rintro e w1 ⟨rfl, hB1⟩
  go_wp2_with fail
  go_loopw [8, 9, 10] (fun v u i wr => RwRel1 w zs v u i wr) (fun _ _ i _ => n - (intOf i).toNat)
  case atStart => exact ⟨0, 0, 0, none, [], Nat.zero_le _, rfl, rfl, rfl, rfl, World.ownsRow_nil _ _ _ _, World.ownsRow_nil _ _ _ _, hB1⟩
  case round =>
    clear hB1
    obtain ⟨k, n2, c2, A2, L, hk, rfl, rfl, hn2, hL, ho, hu, hB⟩ := hrel
    have H2 := Lib.hid hn2
    have HL := Lib.hid hL
    have hn2l : n2 ≤ 200 := by
      have := encL_length (zs.take k); have h := HN.out
      rw [hn2, hL]
      simp only [List.length_take] at this
      omega
    clear hn2 hL
    by_cases hlt : k < n
    · have hkz : k < zs.length := by have := HN.out; omega
      obtain ⟨ad, hA, hb, hc⟩ := hs.pick hkz
      have hc' := (hB.cell (p := ad.add k) (by rw [add_block]; exact hb)).trans hc
      have hwd := hs.wide zs[k] (List.getElem_mem hkz)
      obtain ⟨z, hz⟩ : ∃ z, z = zs[k] := ⟨_, rfl⟩
      rw [← hz] at hc' hwd
      have HZ := Lib.hid hz
      clear hc hz
      subst hA
      go_wp2_with fail
      refine (put_any A2 n2 c2 L z wr H2.out (by omega) ho.str hwd.1 hwd.2).mono ?_
      rintro e w3 ⟨A3, n3, c3, rfl, HN3, ho3, hC3⟩
      have hB3 := hB.trans (hC3.mono hB.size)
      have hu3 := owns_below hu hC3
      have ho3' : Own w3 w.heap.size A3 c3 (L ++ enc z) := owns_base ho3 hB.size
      have HE : Hid (L ++ enc z = encL (zs.take (k + 1))) := Lib.hid (by rw [encL_snoc zs k hkz, HL.out, ← HZ.out])
      have HN4 : Hid (n3 = endAt zs (k + 1)) := Lib.hid (by unfold endAt; rw [← HE.out]; exact HN3.out)
      have hn3l : n3 ≤ 210 := by have h := HN3.out; have := H2.out; have := enc_length z; rw [List.length_append] at h; omega
      have hbs := hB3.size
      clear ho3 hC3 hu ho
      go_wp2_with (at_builtin; refine wpList_append_own _ rfl (.tmp 46) (.tmp 49) 44 rfl w.heap.size 3 i0 (.int .i64 0) 1 8 Tryd.underlying44 hi hz0 hz1 hz2 rfl (by decide) _ _ _ rfl (hu3.alloc _) ⟨w3.heap.size, 0, none⟩ 1 1 [.int .i64 (n3 : Int)] rfl rfl ?c1 ?c2 ?c3 ?c4 ?c5 ?_)
      case c1 =>
        intro j v hj
        match j, hj with
        | 0, hj => simp at hj; subst hj; simp [Addr.add]
      case c2 => intro v hv; simp at hv; subst hv; rfl
      case c3 => unfold maxLen; omega
      case c4 => omega
      case c5 => simp; omega
      intro v' w4 hown' hgrow _
      have hB4 : Below w.heap.size w w4 := ((hB3.alloc hbs _).grown hgrow (by simp; omega) (fun k hk => (World.ownsRow.lt hu3 k hk).1))
      have ho4 : Own w4 w.heap.size A3 c3 (L ++ enc z) := World.ownsRow.kept (World.ownsRow.alloc ho3' _) hgrow (owns_apart ho3' hu3 (by decide))
      have R : RwRel1 w zs (.slice A3 n3 c3) v' (.int .i64 ((k : Int) + 1)) w4 :=
        ⟨k + 1, n3, c3, A3, L ++ enc z, by omega, by go_num, rfl, HN3.out, HE.out, ho4, by rw [endVals_succ, ← HN4.out]; exact hown', hB4⟩
      clear hown' hgrow ho4 ho3' hu3
      go_wp2
      go_roundw
      case rel => exact R
      case measure => simp [intOf]; omega
    · have hkz : k = zs.length := by have := HN.out; omega
      have hkn : k = n := by have := HN.out; omega
      have HLF : Hid (L = encL zs) := Lib.hid (by rw [HL.out, hkz, List.take_length])
      rw [hkn] at hu
      obtain ⟨L2, hL2⟩ : ∃ L2, L2 = allOf zs s.data.toList := ⟨_, rfl⟩
      have HL2 := Lib.hid hL2
      have HP : Hid (L2 = L ++ enc (s.size : Int) ++ s.data.toList) := Lib.hid (by rw [hL2, HLF.out]; unfold allOf; rw [HSD.out])
      clear hkz hL2 hkn
      go_wp2_with fail
      refine (putText_any A2 n2 c2 L L2 s wr H2.out (by omega) ho.str (by omega) HP.out).mono ?_
      rintro e w3 ⟨A3, n3, c3, rfl, HN3, ho3, hC3⟩
      have hB3 := hB.trans (hC3.mono hB.size)
      have hu3 := owns_below hu hC3
      have ho3' : Own w3 w.heap.size A3 c3 L2 := owns_base ho3 hB.size
      have hn3l : n3 ≤ 300 := by
        have h := HN3.out; have h2 := HP.out; have h3 := H2.out; have := enc_length (s.size : Int); have h4 := HSD.out
        rw [h2, List.length_append, List.length_append] at h; omega
      have hbs := hB3.size
      clear ho3 hC3 hu ho
      go_wp2_with (at_builtin; refine wpList_append_own _ rfl (.tmp 54) (.tmp 57) 44 rfl w.heap.size 3 i0 (.int .i64 0) 1 8 Tryd.underlying44 hi hz0 hz1 hz2 rfl (by decide) _ _ _ rfl (hu3.alloc _) ⟨w3.heap.size, 0, none⟩ 1 1 [.int .i64 (n3 : Int)] rfl rfl ?d1 ?d2 ?d3 ?d4 ?d5 ?_)
      case d1 =>
        intro j v hj
        match j, hj with
        | 0, hj => simp at hj; subst hj; simp [Addr.add]
      case d2 => intro v hv; simp at hv; subst hv; rfl
      case d3 => unfold maxLen; omega
      case d4 => omega
      case d5 => simp; omega
      intro v' w4 hown' hgrow _
      have hB4 : Below w.heap.size w w4 := ((hB3.alloc hbs _).grown hgrow (by simp; omega) (fun k hk => (World.ownsRow.lt hu3 k hk).1))
      have ho4 : Own w4 w.heap.size A3 c3 L2 := World.ownsRow.kept (World.ownsRow.alloc ho3' _) hgrow (owns_apart ho3' hu3 (by decide))
      clear hgrow ho3' hu3
      obtain ⟨h, c9, hv, hhb, hhl⟩ : ∃ h c9, v' = .slice (some ⟨h, 0, none⟩) (n + 1) c9 ∧ w.heap.size ≤ h ∧ h < w4.heap.size := by
        rcases hown'.2 with ⟨_, h0⟩ | ⟨g, cap, cur, hv, hb, hg, _⟩
        · omega
        · exact ⟨g, cap, hv, hb, (Array.getElem?_eq_some_iff.1 hg).1⟩
      rw [hv]
      rw [hv] at hown'
      clear hv
      have HE9 := Lib.hid hown'
      clear hown'
      go_wp2_with fail
      refine (number_any x _ w4 (by omega) (by omega)).mono ?_
      rintro e w5 ⟨rfl, rfl⟩
      have hm1 := Int.emod_nonneg x (by omega : ((n3 : Int) + 1) ≠ 0)
      have hm2 := Int.emod_lt_of_pos x (by omega : 0 < (n3 : Int) + 1)
      obtain ⟨K, hK⟩ := Int.eq_ofNat_of_zero_le hm1
      rw [hK] at hm1 hm2
      rw [hK]
      clear hK hm1
      have hKn : K ≤ n3 := by omega
      have hcap := ho4.cap
      have hKc : K ≤ c3 := by have := HN3.out; omega
      have hsl := fun W : World => run_cuth A3 n3 c3 K W hKc
      have hst3 := ho4.str.head c3 K
      obtain ⟨A4, hA4⟩ : ∃ A4, A4 = if c3 = 0 then A3 else A3.map (·.add 0) := ⟨_, rfl⟩
      rw [← hA4] at hsl hst3
      obtain ⟨LK, hLK⟩ : ∃ LK, LK = L2.take K := ⟨_, rfl⟩
      rw [← hLK] at hst3
      have HST3 := Lib.hid hst3
      have HLK := Lib.hid hLK
      have HKL : Hid (K = LK.length) := Lib.hid (by rw [hLK, List.length_take, ← HN3.out]; omega)
      clear hA4 hst3 hLK ho4 hm2 hcap
      go_wp2_with fail
      refine (newReader_any A4 K c3 LK w4 HKL.out (by omega) HST3.out).mono ?_
      rintro e w6 ⟨g, rfl, hR6, _, hg, hC6⟩
      have hB6 := hB4.trans (hC6.mono hB4.size)
      have hu6 := owns_below HE9.out hC6
      have hgw : w.heap.size ≤ g := Nat.le_trans hB4.size hg
      have hhg : h ≠ g := by omega
      clear HE9 hC6 hsl
      go_wp2_with fail
      go_loopw [13, 14] (fun p i wr => RwRel2 w zs LK g h c9 n n3 p i wr) (fun _ i _ => n + 1 - (intOf i).toNat)
      case atStart => exact ⟨0, 0, by omega, rfl, rfl, fun _ => rfl, fun h => by omega, hR6, hu6, hB6⟩
      case round =>
        clear hR6 hu6 hB6 hB4 hB3 hB
        obtain ⟨j, P, hj, rfl, rfl, hP1, hP2, hR, hu, hB⟩ := hrel
        have heW := (HS.out.later hB).errs
        have HSW := Lib.hid (HS.out.later hB)
        have HP1 := Lib.hid hP1
        have HP2 := Lib.hid hP2
        clear hP1 hP2
        by_cases hjn : j < n
        · have hjz : j < zs.length := by have := HN.out; omega
          have hcj : wr.cell? ⟨h, j, none⟩ = some (.int .i64 ((endAt zs (j + 1) : Nat) : Int)) := by
            rw [hu.cellAt j (by omega)]; exact endVals_get zs n n3 j hjn
          obtain ⟨E, hE⟩ : ∃ E, E = endAt zs (j + 1) := ⟨_, rfl⟩
          rw [← hE] at hcj
          obtain ⟨ad, hA, hb, hc⟩ := hs.pick hjz
          have hc' := (hB.cell (p := ad.add j) (by rw [add_block]; exact hb)).trans hc
          have hwd := hs.wide zs[j] (List.getElem_mem hjz)
          have hPe : P = endAt zs j := HP1.out (by omega)
          have hsucc := endAt_succ zs j hjz
          have hfit := drop_take_fits zs s.data.toList j K hjz
          have hcut := drop_take_cut zs s.data.toList j K hjz
          rw [← HL2.out, ← HLK.out, ← hPe, ← hE] at hfit hcut
          rw [← hE, ← hPe] at hsucc
          obtain ⟨z, hz⟩ : ∃ z, z = zs[j] := ⟨_, rfl⟩
          rw [← hz] at hc' hwd hfit hcut hsucc
          have HFIT := Lib.hid hfit
          have HCUT := Lib.hid hcut
          have HSUC := Lib.hid hsucc
          have HEE := Lib.hid hE
          have HPE := Lib.hid hPe
          have hji : (j : Int) < (n : Int) := by omega
          have hjl : (j : Int) ≤ (n : Int) := by omega
          have hj1 : (j : Int) < (n : Int) + 1 := by omega
          have hjN : j < n + 1 := by omega
          have hjL : j ≤ n := by omega
          clear hc hz hfit hcut hsucc hE hPe
          subst hA
          by_cases hEK : E ≤ K
          · have hdf : decide (E ≤ K) = true := decide_eq_true hEK
            obtain ⟨rest, hrest⟩ := HFIT.out hEK
            have HREST := Lib.hid hrest
            clear hrest
            have hbz : ((z : Int) != z) = false := by simp
            go_wp2_with fail
            refine (num_read g LK rest P E z _ _ wr _ _ _ hR heW HREST.out HSUC.out hwd.1 hwd.2 hwd.1 hwd.2).mono ?_
            rintro e w7 ⟨rfl, hG7, hR7⟩
            have hB7 := grown_below hB hG7 hB.size hgw
            have hu7 := owns_grown hu hG7 hhg
            have hc7 : w7.cell? (ad.add j) = some (.int .i64 z) := cell_beside hG7 (by rw [add_block]; omega) hc'
            have hcj7 : w7.cell? ⟨h, j, none⟩ = some (.int .i64 (E : Int)) := cell_beside' hG7 (by simpa using hhg) hcj
            have R : RwRel2 w zs LK g h c9 n n3 (.int .i64 (E : Int)) (.int .i64 ((j : Int) + 1)) w7 :=
              ⟨j + 1, E, by omega, by go_num, rfl, fun _ => HEE.out, fun h => by omega, hR7, hu7, hB7⟩
            clear hR hG7 hu hR7 hu7 hcj hc'
            go_wp2
            go_roundw
            case rel => exact R
            case measure => simp [intOf]; omega
          · have hdf : decide (E ≤ K) = false := decide_eq_false hEK
            go_wp2_with fail
            refine (num_fail g LK P 2 _ _ wr _ _ _ hR heW (by omega) (by rw [HCUT.out (by omega)]; exact numOf_cut z _ _ _ hwd.1 hwd.2 (by have := HSUC.out; have := enc_pos z; omega))).mono ?_
            rintro e w7 ⟨rfl, hG7, b7, hbs7, hb7, hR7⟩
            have hB7 := grown_below hB hG7 hB.size hgw
            have HS7 := Lib.hid (HS.out.later hB7)
            have HB7 := Lib.hid hb7
            clear hR hG7 hu hb7 hcj hc'
            go_wp2_with fail
            refine (at_any g LK P _ w7 hR7).mono ?_
            rintro e w8 ⟨rfl, rfl⟩
            go_wp2_with fail
            refine (err_bad g LK P w7 _ _ hR7).mono ?_
            rintro e w8 ⟨rfl, rfl⟩
            go_wp2_with fail
            refine (placed_any _ _ w7 (by omega)).mono ?_
            rintro e w8 ⟨rfl, hC8⟩
            have HS8 := Lib.hid (HS7.out.later hC8)
            have HB8 := Lib.hid (HB7.out.below hC8 HB7.out.lt)
            have hB8 := hB7.trans (hC8.mono hB7.size)
            go_wp2_with fail
            refine (same_at' w8 ads 0 b7 _ _ _ _ HS8.out (HS8.out.pick 0 (by omega)) HB8.out (by omega) (by omega)).mono ?_
            rintro e w9 ⟨rfl, hC9⟩
            go_wp2
            go_ret
            exact RetYes.mk (hB8.trans (hC9.mono hB8.size))
        · by_cases hje : j = n
          · have hcj : wr.cell? ⟨h, j, none⟩ = some (.int .i64 (n3 : Int)) := by
              rw [hu.cellAt j (by omega), hje]; exact endVals_last zs n n3
            have hPe : P = endAt zs zs.length := by rw [HP1.out (by omega), hje, HN.out]
            have htx := drop_take_text zs s.data.toList K
            rw [← HL2.out, ← HLK.out, ← hPe] at htx
            have htot : n3 = P + ((enc (s.data.toList.length : Int)).length + s.data.toList.length) := by
              rw [HN3.out, HL2.out, allOf_length, hPe, endAt_full]
            have HTX := Lib.hid htx
            have HTOT := Lib.hid htot
            have HJE := Lib.hid hje
            have hji : ¬ (j : Int) < (n : Int) := by omega
            have hjl : (j : Int) ≤ (n : Int) := by omega
            have hj1 : (j : Int) < (n : Int) + 1 := by omega
            have hjN : j < n + 1 := by omega
            have hjL : j ≤ n := by omega
            clear htx htot hPe hje
            by_cases hEK : n3 ≤ K
            · have hdf : decide (n3 ≤ K) = true := decide_eq_true hEK
              have HTX2 : Hid (LK.drop P = enc (s.data.toList.length : Int) ++ s.data.toList ++ []) := Lib.hid (by
                rw [HTX.out, List.append_nil, List.take_of_length_le]
                rw [List.length_append]; have := HTOT.out; omega)
              go_wp2_with fail
              refine (text_read g LK s.data.toList [] P n3 _ wr _ _ _ hR heW HTX2.out HTOT.out (by have := HSD.out; omega) (by omega)).mono ?_
              rintro e w7 ⟨rfl, hG7, hR7⟩
              have hB7 := grown_below hB hG7 hB.size hgw
              have hu7 := owns_grown hu hG7 hhg
              have hcj7 : w7.cell? ⟨h, j, none⟩ = some (.int .i64 (n3 : Int)) := cell_beside' hG7 (by simpa using hhg) hcj
              have R : RwRel2 w zs LK g h c9 n n3 (.int .i64 (n3 : Int)) (.int .i64 ((j : Int) + 1)) w7 :=
                ⟨j + 1, n3, by omega, by go_num, rfl, fun h => by have := HJE.out; omega, fun _ => rfl, hR7, hu7, hB7⟩
              clear hR hG7 hu hR7 hu7 hcj
              go_wp2
              go_roundw
              case rel => exact R
              case measure => simp [intOf]; omega
            · have hdf : decide (n3 ≤ K) = false := decide_eq_false hEK
              go_wp2_with fail
              refine (text_fail g LK P 2 _ wr _ _ _ hR heW (by omega) (by omega) (by rw [HTX.out]; exact textOf_cut _ _ _ (by have := HSD.out; omega) (by omega) (by have := HTOT.out; have := enc_pos (s.data.toList.length : Int); omega))).mono ?_
              rintro e w7 ⟨rfl, hG7, b7, hbs7, hb7, hR7⟩
              have hB7 := grown_below hB hG7 hB.size hgw
              have HS7 := Lib.hid (HS.out.later hB7)
              have HB7 := Lib.hid hb7
              clear hR hG7 hu hb7 hcj
              go_wp2_with fail
              refine (at_any g LK P _ w7 hR7).mono ?_
              rintro e w8 ⟨rfl, rfl⟩
              go_wp2_with fail
              refine (err_bad g LK P w7 _ _ hR7).mono ?_
              rintro e w8 ⟨rfl, rfl⟩
              go_wp2_with fail
              refine (placed_any _ _ w7 (by omega)).mono ?_
              rintro e w8 ⟨rfl, hC8⟩
              have HS8 := Lib.hid (HS7.out.later hC8)
              have HB8 := Lib.hid (HB7.out.below hC8 HB7.out.lt)
              have hB8 := hB7.trans (hC8.mono hB7.size)
              go_wp2_with fail
              refine (same_at' w8 ads 0 b7 _ _ _ _ HS8.out (HS8.out.pick 0 (by omega)) HB8.out (by omega) (by omega)).mono ?_
              rintro e w9 ⟨rfl, hC9⟩
              go_wp2
              go_ret
              exact RetYes.mk (hB8.trans (hC9.mono hB8.size))
          · have hjN : ¬ j ≤ n := by omega
            have hP3 : P = n3 := HP2.out (by omega)
            have hjl : ¬ (j : Int) ≤ (n : Int) := by omega
            have hleft : (0 : Int) = ((LK.length - P : Nat) : Int) := by
              have := HKL.out; omega
            have HLEFT := Lib.hid hleft
            clear hleft hP3
            go_wp2_with fail
            refine (err_nil g LK P wr hR).mono ?_
            rintro e w8 ⟨rfl, rfl⟩
            go_wp2_with fail
            refine (left_val g LK P _ wr 0 hR HLEFT.out).mono ?_
            rintro e w8 ⟨rfl, m8, rfl⟩
            go_wp2
            go_ret
            exact RetYes.mk (below_drewN hB m8)
end Go.Proofs.YtehfcobceeeloaaDoor
