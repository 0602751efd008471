/-
  The walk of WireForms: for every two int64 it answers true, and nothing old is turned. Conditions: the sentinel errors lie where the program's text lays them.
-/
import Derived.Test.YtehfcobceeeloaaDoorLawErr
namespace Go.Proofs.YtehfcobceeeloaaDoor
open Go.RowKit

theorem enc_begins (a b : Int) (ha1 : -9223372036854775808 ≤ a) (ha2 : a ≤ 9223372036854775807) (hb1 : -9223372036854775808 ≤ b) (hb2 : b ≤ 9223372036854775807) (h : enc a = (enc b).take (enc a).length) : a = b := by
  have e : enc b = enc a ++ (enc b).drop (enc a).length := by
    conv => lhs; rw [← List.take_append_drop (enc a).length (enc b), ← h]
  have d1 := dec_enc b hb1 hb2 []
  have d2 := dec_enc a ha1 ha2 ((enc b).drop (enc a).length)
  rw [List.append_nil, e, d2] at d1
  exact zz_inj (by injection d1)

/-- The last byte goes on, and a nothing behind. -/
def bump : List UInt8 → List UInt8
  | [] => []
  | [c] => [c ||| 128, 0]
  | c :: d :: l => c :: bump (d :: l)
theorem bump_set : ∀ (l : List UInt8) (h : l ≠ []), bump l = l.set (l.length - 1) (l[l.length - 1]'(by have := List.length_pos_iff.2 h; omega) ||| 128) ++ [0] := by
  intro l
  induction l with
  | nil => intro h; exact absurd rfl h
  | cons c l ih =>
    intro h
    cases l with
    | nil => rfl
    | cons d l =>
      rw [bump, ih (by simp)]
      simp
theorem or_toNat (c : UInt8) (h : c.toNat < 128) : (c ||| 128).toNat = c.toNat + 128 := by
  rw [UInt8.toNat_or]
  have : (128 : UInt8).toNat = 128 := rfl
  rw [this, nat_or128 _ (by omega), Nat.mod_eq_of_lt h]
theorem dec_bump : ∀ (f k z X : Nat), f + k = 10 → 0 < f → dec X k (bump (encF f z)) = ⟨1, 0, 0⟩ := by
  intro f
  induction f with
  | zero => intro k z X _ h; omega
  | succ f ih =>
    intro k z X hf _
    rw [encF]
    by_cases hs : z < 128
    · rw [if_pos hs, bump, dec]
      have hz : (UInt8.ofNat z).toNat = z := ofNat_toNat (by omega)
      rw [or_toNat _ (by rw [hz]; exact hs), hz]
      by_cases h9 : k = 9
      · rw [if_pos (by omega)]
      · rw [if_neg (by omega), if_neg (by omega), dec, if_pos (by right; exact ⟨by omega, rfl⟩)]
    · rw [if_neg hs]
      cases f with
      | zero =>
        rw [show encF 0 (z / 128) = [] from rfl, bump, dec]
        rw [if_pos ?_]
        left
        refine ⟨by omega, ?_⟩
        rw [UInt8.toNat_or]
        have e : (UInt8.ofNat (z % 128 + 128)).toNat = z % 128 + 128 := ofNat_toNat (by omega)
        have : (128 : UInt8).toNat = 128 := rfl
        rw [e, this, nat_or128 _ (by omega)]
        omega
      | succ f =>
        have hne : encF (f + 1) (z / 128) ≠ [] := by
          intro h
          have := encF_pos f (z / 128)
          rw [h] at this
          simp at this
        obtain ⟨d, l, hl⟩ : ∃ d l, encF (f + 1) (z / 128) = d :: l := List.exists_cons_of_ne_nil hne
        rw [hl, bump, ← hl, dec]
        have e : (UInt8.ofNat (z % 128 + 128)).toNat = z % 128 + 128 := ofNat_toNat (by omega)
        rw [e, if_neg (by omega), if_neg (by omega)]
        exact ih (k + 1) (z / 128) _ (by omega) (by omega)
theorem numOf_bump (a lo hi : Int) : numOf (bump (enc a)) lo hi = ⟨1, 0, 0⟩ := by
  have h := dec_bump 10 0 (zz a) 0 rfl (by omega)
  unfold numOf
  rw [show bump (enc a) = bump (encF 10 (zz a)) from rfl, h]
  rfl
theorem bump_length (l : List UInt8) (h : l ≠ []) : (bump l).length = l.length + 1 := by rw [bump_set l h]; simp

theorem run_cuth (A : Option Addr) (n c k : Nat) (W : World) (h : k ≤ c) :
    (Instr.slice 22 (.slice A n c) none (some (.int .i64 (k : Int))) none).run Tryd.prog W = .ok (.slice (if c = 0 then A else A.map (·.add 0)) k c) W := by
  have e := run_slice_h (P := Tryd.prog) (w := W) (t := 22) (a := A) (len := n) (cap := c) (by kernel_rfl) .i64 (k : Int) (by omega) (by omega)
  obtain ⟨i0, hi, hz0, hz1, hz2⟩ := info_parts Tryd.info8
  have he : Tryd.prog.elem 22 = 5 := by kernel_rfl
  rw [e, he]
  simp [sizeOf, typeInfo, hi, hz1, sliced]
theorem Str.head {w : World} {B : Nat} {A : Option Addr} {l : List UInt8} (h : Str w B A l) (c k : Nat) : Str w B (if c = 0 then A else A.map (·.add 0)) (l.take k) := by
  have e : (if c = 0 then A else A.map (·.add 0)) = A := by
    split
    · rfl
    · cases A <;> simp [add_zero]
  rw [e]
  exact h.take k
theorem cell_new_set (w : World) (p : Addr) (x v : Value) (t : TypeId) : ((w.setCell p x).alloc (.cells #[v] t)).cell? ((⟨w.heap.size, 0, none⟩ : Addr).add 0) = some v := by
  have h := cell_of_row ((w.setCell p x).alloc (.cells #[v] t)) (w.setCell p x).heap.size 0 #[v] t (0, 0) (heap_alloc_new _ _)
  have e : (w.setCell p x).heap.size = w.heap.size := by simp
  rw [e] at h
  exact h
theorem own_bumped {w1 : World} {base : Nat} {l : List UInt8} {v' : Value} (hne : l ≠ []) (n : Nat) (hn : n = l.length)
    (hown : w1.ownsRow base 5 1 v' (n + 1) ((l.map byt).set (n - 1) (.int .u8 (((l[l.length - 1]'(by have := List.length_pos_iff.2 hne; omega) ||| 128).toNat : Nat) : Int)) ++ [.int .u8 0])) :
    ∃ A c', v' = .slice A (bump l).length c' ∧ Own w1 base A c' (bump l) := by
  subst hn
  have e : (l.map byt).set (l.length - 1) (.int .u8 (((l[l.length - 1]'(by have := List.length_pos_iff.2 hne; omega) ||| 128).toNat : Nat) : Int)) ++ [.int .u8 0] =
      (l.set (l.length - 1) (l[l.length - 1]'(by have := List.length_pos_iff.2 hne; omega) ||| 128)).map byt ++ [(0 : UInt8)].map byt := by
    rw [List.map_set]; rfl
  rw [e] at hown
  obtain ⟨A, c', hv, ho⟩ := own_of_row (by simp) hown
  rw [← bump_set l hne] at hv ho
  exact ⟨A, c', hv, ho⟩
theorem sameB_no {a b : Int} (h : a ≠ b) (ha1 : -9223372036854775808 ≤ a) (ha2 : a ≤ 9223372036854775807) (hb1 : -9223372036854775808 ≤ b) (hb2 : b ≤ 9223372036854775807) : sameB ([] ++ enc a) (([] ++ enc b).take ([] ++ enc a).length) = false :=
  decide_eq_false fun e => h (enc_begins a b ha1 ha2 hb1 hb2 (by simpa using e))

set_option maxRecDepth 100000 in
set_option maxHeartbeats 4000000 in
theorem forms_eq (a b : Int) (w : World) (ads : List Addr) (hS : Sents w ads) (ha1 : -9223372036854775808 ≤ a) (ha2 : a ≤ 9223372036854775807) (hb1 : -9223372036854775808 ≤ b) (hb2 : b ≤ 9223372036854775807) (hab : a = b) :
    Calls Tryd.prog 4 #[.int .i64 a, .int .i64 b] w (RetYes w) := by
  obtain ⟨i0, hi, hz0, hz1, hz2⟩ := info_parts Tryd.info8
  have HS := Lib.hid hS
  have HA1 := Lib.hid ha1
  have HA2 := Lib.hid ha2
  have HB1 := Lib.hid hb1
  have HB2 := Lib.hid hb2
  have hbn : (a != b) = false := by rw [hab]; simp
  clear hab
  clear hS ha1 ha2 hb1 hb2
  go_enter Tryd.func4, Tryd.ntmps4
  go_wp2_with fail
  refine (first_any w).mono ?_
  rintro e w1 ⟨rfl, hB1⟩
  go_wp2_with fail
  refine (put_any none 0 0 [] a w1 rfl (by omega) Str.nil HA1.out HA2.out).mono ?_
  rintro e w2 ⟨A2, n2, c2, rfl, HN2, ho2, hC2⟩
  have hB2 := hB1.trans (hC2.mono hB1.size)
  have x2 : Lies w2 A2 ([] ++ enc a) := ⟨ho2.str⟩
  have hn2 : n2 ≤ 10 ∧ 0 < n2 := by have h := HN2.out; have := enc_length a; have := enc_pos a; simp only [List.nil_append] at h; omega
  obtain ⟨hn2a, hn2b⟩ := hn2
  clear ho2 hC2
  go_wp2_with fail
  refine (put_any none 0 0 [] b w2 rfl (by omega) Str.nil HB1.out HB2.out).mono ?_
  rintro e w3 ⟨A3, n3, c3, rfl, HN3, ho3, hC3⟩
  have hB3 := hB2.trans (hC3.mono hB2.size)
  have x3 := x2.later hC3
  have y3 : Lies w3 A3 ([] ++ enc b) := ⟨ho3.str⟩
  have hn3 : n3 ≤ 10 ∧ 0 < n3 := by have h := HN3.out; have := enc_length b; have := enc_pos b; simp only [List.nil_append] at h; omega
  obtain ⟨hn3a, hn3b⟩ := hn3
  have hcap := ho3.cap
  have hn3c : n3 ≤ c3 := by have := HN3.out; omega
  have hb20 : ((n2 : Int) == 0) = false := beq_eq_false_iff_ne.2 (by omega)
  have hb30 : ((n3 : Int) == 0) = false := beq_eq_false_iff_ne.2 (by omega)
  have hd10 : decide ((10 : Int) < (n2 : Int)) = false := decide_eq_false (by omega)
  clear ho3 hC3 x2 hcap
  have hB5 := hB3
  have x5 := x3
  clear y3
  go_wp2_with fail
  refine (bytes_any A2 n2 c2 _ _ HN2.out (by omega) x5.str).mono ?_
  rintro e w6 ⟨A6, n6, c6, rfl, HN6, ho6, hC6⟩
  have hB6 := hB5.trans (hC6.mono hB5.size)
  have hn6 : n6 ≤ 10 ∧ 0 < n6 := by have h := HN6.out; have := HN2.out; omega
  obtain ⟨hn6a, hn6b⟩ := hn6
  have hne : ([] ++ enc a : List UInt8) ≠ [] := by have := enc_pos a; intro h; rw [List.nil_append] at h; rw [h] at this; simp at this
  obtain ⟨l, hl⟩ : ∃ l : List UInt8, l = [] ++ enc a := ⟨_, rfl⟩
  have HL : Hid (l = enc a) := Lib.hid (by rw [hl]; rfl)
  rw [← hl] at ho6 HN6 hne
  obtain ⟨g6, hg6, hb6, hs6⟩ : ∃ g, A6 = some ⟨g, 0, none⟩ ∧ w.heap.size ≤ g ∧ g < w6.heap.size := by
    rcases ho6.form with ⟨_, _, h0⟩ | ⟨g, h1, h2, h3, _⟩
    · exact absurd h0 hne
    · exact ⟨g, h1, Nat.le_trans hB5.size h2, h3⟩
  subst hg6
  have hlast : l.length - 1 < l.length := by have := HN6.out; omega
  have ho6' : w6.ownsRow w.heap.size 5 1 (.slice (some ⟨g6, 0, none⟩) n6 c6) n6 (l.map byt) := by
    have h := ho6
    unfold Own at h
    rw [← HN6.out] at h
    obtain ⟨h1, h2⟩ := h
    refine ⟨h1, ?_⟩
    rcases h2 with h2 | ⟨g, cap, cur, hv, hb, r⟩
    · exact .inl h2
    · exact .inr ⟨g, cap, cur, hv, Nat.le_trans hB5.size hb, r⟩
  have hcl : w6.cell? ⟨g6, n6 - 1, none⟩ = some (.int .u8 ((l[l.length - 1]'hlast).toNat : Int)) := by
    rw [ho6'.cellAt (n6 - 1) (by omega), List.getElem?_map, HN6.out, List.getElem?_eq_getElem hlast]; rfl
  have hfz := ho6'.frozenAt (n6 - 1)
  obtain ⟨u, hu⟩ : ∃ u, u = l[l.length - 1]'hlast := ⟨_, rfl⟩
  have hor : bits .or .u8 (u.toNat : Int) 128 = (((u ||| 128).toNat : Nat) : Int) := by
    have h := u.toNat_lt
    rw [show (128 : Int) = ((128 : Nat) : Int) from rfl, u8_or_nat _ _ (by omega) (by omega), UInt8.toNat_or]; rfl
  rw [← hu] at hcl
  have HU := Lib.hid hu
  have HNE := Lib.hid hne
  obtain ⟨z, hz⟩ : ∃ z, z = (((u ||| 128).toNat : Nat) : Int) := ⟨_, rfl⟩
  rw [← hz] at hor
  have HZ := Lib.hid hz
  have hst := ho6'.stored (n6 - 1) (.int .u8 z)
  have HST := Lib.hid hst
  have hgl6 := hs6
  have e61 : ((n6 : Int) - 1).toNat = n6 - 1 := by omega
  have hi61 : (0 : Int) ≤ (n6 : Int) - 1 := by omega
  have hi62 : (n6 : Int) - 1 < (n6 : Int) := by omega
  clear hu hne hl ho6 hz hst x5
  go_wp2_with (at_builtin; refine wpList_append_own _ rfl (.tmp 58) (.tmp 59) 22 rfl w.heap.size 5 i0 (.int .u8 0) 1 1 Tryd.underlying22 hi hz0 hz1 hz2 rfl (by decide) _ _ _ rfl (HST.out.1.alloc _) ⟨w6.heap.size, 0, none⟩ 1 1 [.int .u8 0] rfl rfl ?c1 ?c2 ?c3 ?c4 ?c5 ?_)
  case c1 =>
    intro j v hj
    match j, hj with
    | 0, hj => simp at hj; subst hj; exact cell_new_set w6 _ _ _ _
  case c2 => intro v hv; simp at hv; subst hv; rfl
  case c3 => unfold maxLen; omega
  case c4 => omega
  case c5 => simp; have := hB6.size; omega
  intro v' w7 hown' hgrow _
  have hB7 : Below w.heap.size w w7 := (((hB6.setCell hb6 _).alloc (by simpa using hB6.size) _).grown hgrow (by simp; have := hB6.size; omega) (fun k hk => by simp [Value.ownBlock] at hk; omega))
  obtain ⟨A7, c7, rfl, ho7⟩ := own_bumped HNE.out n6 HN6.out (by rw [HZ.out, HU.out] at hown'; exact hown')
  have HBL : Hid ((bump l).length = n6 + 1) := Lib.hid (by rw [bump_length l HNE.out, HN6.out])
  obtain ⟨L, hL⟩ : ∃ L, L = bump l := ⟨_, rfl⟩
  rw [← hL] at ho7 HBL ⊢
  have HLB := Lib.hid hL
  clear hown' hgrow hL
  have hLl : L.length ≤ 11 := by have := HBL.out; omega
  go_wp2_with fail
  refine (newReader_any A7 _ c7 L w7 rfl (by omega) ho7.str).mono ?_
  rintro e w8 ⟨g, rfl, hR8, _, hg, hC8⟩
  have hB8 := hB7.trans (hC8.mono hB7.size)
  have hgw : w.heap.size ≤ g := Nat.le_trans hB7.size hg
  have HS8 := Lib.hid (HS.out.later hB8)
  clear ho7 hC8 HST hcl hfz
  go_wp2_with fail
  refine (num_fail g L 0 1 _ _ w8 _ _ _ hR8 HS8.out.errs (by omega) (by rw [List.drop_zero, HLB.out, HL.out]; exact numOf_bump a _ _)).mono ?_
  rintro e w9 ⟨rfl, hG9, b9, hbs, hb9, hR9⟩
  have hB9 := grown_below hB8 hG9 hB8.size hgw
  have HS9 := Lib.hid (HS.out.later hB9)
  have HB9 := Lib.hid hb9
  clear hR8 hG9 hb9
  go_wp2_with fail
  refine (err_bad g L 0 w9 _ _ hR9).mono ?_
  rintro e w10 ⟨rfl, rfl⟩
  go_wp2_with fail
  refine (placed_any _ _ w9 (by omega)).mono ?_
  rintro e w10 ⟨rfl, hC10⟩
  have HS10 := Lib.hid (HS9.out.later hC10)
  have HB10 := Lib.hid (HB9.out.below hC10 HB9.out.lt)
  have hB10 := hB9.trans (hC10.mono hB9.size)
  have hR10 := hR9.later hC10
  go_wp2_with fail
  refine (same_at' w10 ads 1 b9 _ _ _ _ HS10.out (HS10.out.pick 1 (by omega)) HB10.out (by omega) (by omega)).mono ?_
  rintro e w11 ⟨rfl, hC11⟩
  have hR11 := hR10.later hC11
  have hB11 := hB10.trans (hC11.mono hB10.size)
  go_wp2_with fail
  refine (at_any g L 0 _ w11 hR11).mono ?_
  rintro e w12 ⟨rfl, rfl⟩
  go_wp2
  go_ret
  exact RetYes.mk hB11

set_option maxRecDepth 100000 in
set_option maxHeartbeats 4000000 in
theorem forms_longer (a b : Int) (w : World) (ads : List Addr) (hS : Sents w ads) (ha1 : -9223372036854775808 ≤ a) (ha2 : a ≤ 9223372036854775807) (hb1 : -9223372036854775808 ≤ b) (hb2 : b ≤ 9223372036854775807) (hab : a ≠ b) (hlen : (enc b).length < (enc a).length) :
    Calls Tryd.prog 4 #[.int .i64 a, .int .i64 b] w (RetYes w) := by
  obtain ⟨i0, hi, hz0, hz1, hz2⟩ := info_parts Tryd.info8
  have HS := Lib.hid hS
  have HA1 := Lib.hid ha1
  have HA2 := Lib.hid ha2
  have HB1 := Lib.hid hb1
  have HB2 := Lib.hid hb2
  have hbn : (a != b) = true := by rw [bne_iff_ne]; exact hab
  have HLEN := Lib.hid hlen
  clear hab hlen
  clear hS ha1 ha2 hb1 hb2
  go_enter Tryd.func4, Tryd.ntmps4
  go_wp2_with fail
  refine (first_any w).mono ?_
  rintro e w1 ⟨rfl, hB1⟩
  go_wp2_with fail
  refine (put_any none 0 0 [] a w1 rfl (by omega) Str.nil HA1.out HA2.out).mono ?_
  rintro e w2 ⟨A2, n2, c2, rfl, HN2, ho2, hC2⟩
  have hB2 := hB1.trans (hC2.mono hB1.size)
  have x2 : Lies w2 A2 ([] ++ enc a) := ⟨ho2.str⟩
  have hn2 : n2 ≤ 10 ∧ 0 < n2 := by have h := HN2.out; have := enc_length a; have := enc_pos a; simp only [List.nil_append] at h; omega
  obtain ⟨hn2a, hn2b⟩ := hn2
  clear ho2 hC2
  go_wp2_with fail
  refine (put_any none 0 0 [] b w2 rfl (by omega) Str.nil HB1.out HB2.out).mono ?_
  rintro e w3 ⟨A3, n3, c3, rfl, HN3, ho3, hC3⟩
  have hB3 := hB2.trans (hC3.mono hB2.size)
  have x3 := x2.later hC3
  have y3 : Lies w3 A3 ([] ++ enc b) := ⟨ho3.str⟩
  have hn3 : n3 ≤ 10 ∧ 0 < n3 := by have h := HN3.out; have := enc_length b; have := enc_pos b; simp only [List.nil_append] at h; omega
  obtain ⟨hn3a, hn3b⟩ := hn3
  have hcap := ho3.cap
  have hn3c : n3 ≤ c3 := by have := HN3.out; omega
  have hb20 : ((n2 : Int) == 0) = false := beq_eq_false_iff_ne.2 (by omega)
  have hb30 : ((n3 : Int) == 0) = false := beq_eq_false_iff_ne.2 (by omega)
  have hd10 : decide ((10 : Int) < (n2 : Int)) = false := decide_eq_false (by omega)
  clear ho3 hC3 x2 hcap
  have hB5 := hB3
  have x5 := x3
  have hd23 : decide (n2 ≤ n3) = false := decide_eq_false (by have h1 := HN2.out; have h2 := HN3.out; have h3 := HLEN.out; simp only [List.nil_append] at h1 h2; omega)
  clear y3
  go_wp2_with fail
  refine (bytes_any A2 n2 c2 _ _ HN2.out (by omega) x5.str).mono ?_
  rintro e w6 ⟨A6, n6, c6, rfl, HN6, ho6, hC6⟩
  have hB6 := hB5.trans (hC6.mono hB5.size)
  have hn6 : n6 ≤ 10 ∧ 0 < n6 := by have h := HN6.out; have := HN2.out; omega
  obtain ⟨hn6a, hn6b⟩ := hn6
  have hne : ([] ++ enc a : List UInt8) ≠ [] := by have := enc_pos a; intro h; rw [List.nil_append] at h; rw [h] at this; simp at this
  obtain ⟨l, hl⟩ : ∃ l : List UInt8, l = [] ++ enc a := ⟨_, rfl⟩
  have HL : Hid (l = enc a) := Lib.hid (by rw [hl]; rfl)
  rw [← hl] at ho6 HN6 hne
  obtain ⟨g6, hg6, hb6, hs6⟩ : ∃ g, A6 = some ⟨g, 0, none⟩ ∧ w.heap.size ≤ g ∧ g < w6.heap.size := by
    rcases ho6.form with ⟨_, _, h0⟩ | ⟨g, h1, h2, h3, _⟩
    · exact absurd h0 hne
    · exact ⟨g, h1, Nat.le_trans hB5.size h2, h3⟩
  subst hg6
  have hlast : l.length - 1 < l.length := by have := HN6.out; omega
  have ho6' : w6.ownsRow w.heap.size 5 1 (.slice (some ⟨g6, 0, none⟩) n6 c6) n6 (l.map byt) := by
    have h := ho6
    unfold Own at h
    rw [← HN6.out] at h
    obtain ⟨h1, h2⟩ := h
    refine ⟨h1, ?_⟩
    rcases h2 with h2 | ⟨g, cap, cur, hv, hb, r⟩
    · exact .inl h2
    · exact .inr ⟨g, cap, cur, hv, Nat.le_trans hB5.size hb, r⟩
  have hcl : w6.cell? ⟨g6, n6 - 1, none⟩ = some (.int .u8 ((l[l.length - 1]'hlast).toNat : Int)) := by
    rw [ho6'.cellAt (n6 - 1) (by omega), List.getElem?_map, HN6.out, List.getElem?_eq_getElem hlast]; rfl
  have hfz := ho6'.frozenAt (n6 - 1)
  obtain ⟨u, hu⟩ : ∃ u, u = l[l.length - 1]'hlast := ⟨_, rfl⟩
  have hor : bits .or .u8 (u.toNat : Int) 128 = (((u ||| 128).toNat : Nat) : Int) := by
    have h := u.toNat_lt
    rw [show (128 : Int) = ((128 : Nat) : Int) from rfl, u8_or_nat _ _ (by omega) (by omega), UInt8.toNat_or]; rfl
  rw [← hu] at hcl
  have HU := Lib.hid hu
  have HNE := Lib.hid hne
  obtain ⟨z, hz⟩ : ∃ z, z = (((u ||| 128).toNat : Nat) : Int) := ⟨_, rfl⟩
  rw [← hz] at hor
  have HZ := Lib.hid hz
  have hst := ho6'.stored (n6 - 1) (.int .u8 z)
  have HST := Lib.hid hst
  have hgl6 := hs6
  have e61 : ((n6 : Int) - 1).toNat = n6 - 1 := by omega
  have hi61 : (0 : Int) ≤ (n6 : Int) - 1 := by omega
  have hi62 : (n6 : Int) - 1 < (n6 : Int) := by omega
  clear hu hne hl ho6 hz hst x5
  go_wp2_with (at_builtin; refine wpList_append_own _ rfl (.tmp 58) (.tmp 59) 22 rfl w.heap.size 5 i0 (.int .u8 0) 1 1 Tryd.underlying22 hi hz0 hz1 hz2 rfl (by decide) _ _ _ rfl (HST.out.1.alloc _) ⟨w6.heap.size, 0, none⟩ 1 1 [.int .u8 0] rfl rfl ?c1 ?c2 ?c3 ?c4 ?c5 ?_)
  case c1 =>
    intro j v hj
    match j, hj with
    | 0, hj => simp at hj; subst hj; exact cell_new_set w6 _ _ _ _
  case c2 => intro v hv; simp at hv; subst hv; rfl
  case c3 => unfold maxLen; omega
  case c4 => omega
  case c5 => simp; have := hB6.size; omega
  intro v' w7 hown' hgrow _
  have hB7 : Below w.heap.size w w7 := (((hB6.setCell hb6 _).alloc (by simpa using hB6.size) _).grown hgrow (by simp; have := hB6.size; omega) (fun k hk => by simp [Value.ownBlock] at hk; omega))
  obtain ⟨A7, c7, rfl, ho7⟩ := own_bumped HNE.out n6 HN6.out (by rw [HZ.out, HU.out] at hown'; exact hown')
  have HBL : Hid ((bump l).length = n6 + 1) := Lib.hid (by rw [bump_length l HNE.out, HN6.out])
  obtain ⟨L, hL⟩ : ∃ L, L = bump l := ⟨_, rfl⟩
  rw [← hL] at ho7 HBL ⊢
  have HLB := Lib.hid hL
  clear hown' hgrow hL
  have hLl : L.length ≤ 11 := by have := HBL.out; omega
  go_wp2_with fail
  refine (newReader_any A7 _ c7 L w7 rfl (by omega) ho7.str).mono ?_
  rintro e w8 ⟨g, rfl, hR8, _, hg, hC8⟩
  have hB8 := hB7.trans (hC8.mono hB7.size)
  have hgw : w.heap.size ≤ g := Nat.le_trans hB7.size hg
  have HS8 := Lib.hid (HS.out.later hB8)
  clear ho7 hC8 HST hcl hfz
  go_wp2_with fail
  refine (num_fail g L 0 1 _ _ w8 _ _ _ hR8 HS8.out.errs (by omega) (by rw [List.drop_zero, HLB.out, HL.out]; exact numOf_bump a _ _)).mono ?_
  rintro e w9 ⟨rfl, hG9, b9, hbs, hb9, hR9⟩
  have hB9 := grown_below hB8 hG9 hB8.size hgw
  have HS9 := Lib.hid (HS.out.later hB9)
  have HB9 := Lib.hid hb9
  clear hR8 hG9 hb9
  go_wp2_with fail
  refine (err_bad g L 0 w9 _ _ hR9).mono ?_
  rintro e w10 ⟨rfl, rfl⟩
  go_wp2_with fail
  refine (placed_any _ _ w9 (by omega)).mono ?_
  rintro e w10 ⟨rfl, hC10⟩
  have HS10 := Lib.hid (HS9.out.later hC10)
  have HB10 := Lib.hid (HB9.out.below hC10 HB9.out.lt)
  have hB10 := hB9.trans (hC10.mono hB9.size)
  have hR10 := hR9.later hC10
  go_wp2_with fail
  refine (same_at' w10 ads 1 b9 _ _ _ _ HS10.out (HS10.out.pick 1 (by omega)) HB10.out (by omega) (by omega)).mono ?_
  rintro e w11 ⟨rfl, hC11⟩
  have hR11 := hR10.later hC11
  have hB11 := hB10.trans (hC11.mono hB10.size)
  go_wp2_with fail
  refine (at_any g L 0 _ w11 hR11).mono ?_
  rintro e w12 ⟨rfl, rfl⟩
  go_wp2
  go_ret
  exact RetYes.mk hB11

set_option maxRecDepth 100000 in
set_option maxHeartbeats 4000000 in
theorem forms_other (a b : Int) (w : World) (ads : List Addr) (hS : Sents w ads) (ha1 : -9223372036854775808 ≤ a) (ha2 : a ≤ 9223372036854775807) (hb1 : -9223372036854775808 ≤ b) (hb2 : b ≤ 9223372036854775807) (hab : a ≠ b) (hlen : ¬ (enc b).length < (enc a).length) :
    Calls Tryd.prog 4 #[.int .i64 a, .int .i64 b] w (RetYes w) := by
  obtain ⟨i0, hi, hz0, hz1, hz2⟩ := info_parts Tryd.info8
  have HS := Lib.hid hS
  have HA1 := Lib.hid ha1
  have HA2 := Lib.hid ha2
  have HB1 := Lib.hid hb1
  have HB2 := Lib.hid hb2
  have hbn : (a != b) = true := by rw [bne_iff_ne]; exact hab
  have HLEN := Lib.hid hlen
  have HAB := Lib.hid hab
  clear hab hlen
  clear hS ha1 ha2 hb1 hb2
  go_enter Tryd.func4, Tryd.ntmps4
  go_wp2_with fail
  refine (first_any w).mono ?_
  rintro e w1 ⟨rfl, hB1⟩
  go_wp2_with fail
  refine (put_any none 0 0 [] a w1 rfl (by omega) Str.nil HA1.out HA2.out).mono ?_
  rintro e w2 ⟨A2, n2, c2, rfl, HN2, ho2, hC2⟩
  have hB2 := hB1.trans (hC2.mono hB1.size)
  have x2 : Lies w2 A2 ([] ++ enc a) := ⟨ho2.str⟩
  have hn2 : n2 ≤ 10 ∧ 0 < n2 := by have h := HN2.out; have := enc_length a; have := enc_pos a; simp only [List.nil_append] at h; omega
  obtain ⟨hn2a, hn2b⟩ := hn2
  clear ho2 hC2
  go_wp2_with fail
  refine (put_any none 0 0 [] b w2 rfl (by omega) Str.nil HB1.out HB2.out).mono ?_
  rintro e w3 ⟨A3, n3, c3, rfl, HN3, ho3, hC3⟩
  have hB3 := hB2.trans (hC3.mono hB2.size)
  have x3 := x2.later hC3
  have y3 : Lies w3 A3 ([] ++ enc b) := ⟨ho3.str⟩
  have hn3 : n3 ≤ 10 ∧ 0 < n3 := by have h := HN3.out; have := enc_length b; have := enc_pos b; simp only [List.nil_append] at h; omega
  obtain ⟨hn3a, hn3b⟩ := hn3
  have hcap := ho3.cap
  have hn3c : n3 ≤ c3 := by have := HN3.out; omega
  have hb20 : ((n2 : Int) == 0) = false := beq_eq_false_iff_ne.2 (by omega)
  have hb30 : ((n3 : Int) == 0) = false := beq_eq_false_iff_ne.2 (by omega)
  have hd10 : decide ((10 : Int) < (n2 : Int)) = false := decide_eq_false (by omega)
  clear ho3 hC3 x2 hcap
  have hl23 : n2 ≤ n3 := by have h1 := HN2.out; have h2 := HN3.out; have h3 := HLEN.out; simp only [List.nil_append] at h1 h2; omega
  have hd23 : decide (n2 ≤ n3) = true := decide_eq_true hl23
  have hsl := fun W : World => run_cuth A3 n3 c3 n2 W (by omega)
  have hst3 := y3.str.head c3 n2
  obtain ⟨A4, hA4⟩ : ∃ A4, A4 = if c3 = 0 then A3 else A3.map (·.add 0) := ⟨_, rfl⟩
  rw [← hA4] at hsl hst3
  have HST3 := Lib.hid hst3
  clear hA4 hst3 y3
  go_wp2_with fail
  refine (same_any A2 A4 n2 n2 c2 c3 _ _ w3 _ _ HN2.out (by have h1 := HN2.out; have h2 := HN3.out; rw [List.length_take]; omega) (by omega) x3.str HST3.out).mono ?_
  rintro e w4 ⟨rfl, m4, rfl⟩
  rw [show n2 = ([] ++ enc a).length from HN2.out, sameB_no HAB.out HA1.out HA2.out HB1.out HB2.out, ← HN2.out]
  have hB5 := below_drewN hB3 m4
  have x5 := x3.drewN m4
  clear hsl HST3
  go_wp2_with fail
  refine (bytes_any A2 n2 c2 _ _ HN2.out (by omega) x5.str).mono ?_
  rintro e w6 ⟨A6, n6, c6, rfl, HN6, ho6, hC6⟩
  have hB6 := hB5.trans (hC6.mono hB5.size)
  have hn6 : n6 ≤ 10 ∧ 0 < n6 := by have h := HN6.out; have := HN2.out; omega
  obtain ⟨hn6a, hn6b⟩ := hn6
  have hne : ([] ++ enc a : List UInt8) ≠ [] := by have := enc_pos a; intro h; rw [List.nil_append] at h; rw [h] at this; simp at this
  obtain ⟨l, hl⟩ : ∃ l : List UInt8, l = [] ++ enc a := ⟨_, rfl⟩
  have HL : Hid (l = enc a) := Lib.hid (by rw [hl]; rfl)
  rw [← hl] at ho6 HN6 hne
  obtain ⟨g6, hg6, hb6, hs6⟩ : ∃ g, A6 = some ⟨g, 0, none⟩ ∧ w.heap.size ≤ g ∧ g < w6.heap.size := by
    rcases ho6.form with ⟨_, _, h0⟩ | ⟨g, h1, h2, h3, _⟩
    · exact absurd h0 hne
    · exact ⟨g, h1, Nat.le_trans hB5.size h2, h3⟩
  subst hg6
  have hlast : l.length - 1 < l.length := by have := HN6.out; omega
  have ho6' : w6.ownsRow w.heap.size 5 1 (.slice (some ⟨g6, 0, none⟩) n6 c6) n6 (l.map byt) := by
    have h := ho6
    unfold Own at h
    rw [← HN6.out] at h
    obtain ⟨h1, h2⟩ := h
    refine ⟨h1, ?_⟩
    rcases h2 with h2 | ⟨g, cap, cur, hv, hb, r⟩
    · exact .inl h2
    · exact .inr ⟨g, cap, cur, hv, Nat.le_trans hB5.size hb, r⟩
  have hcl : w6.cell? ⟨g6, n6 - 1, none⟩ = some (.int .u8 ((l[l.length - 1]'hlast).toNat : Int)) := by
    rw [ho6'.cellAt (n6 - 1) (by omega), List.getElem?_map, HN6.out, List.getElem?_eq_getElem hlast]; rfl
  have hfz := ho6'.frozenAt (n6 - 1)
  obtain ⟨u, hu⟩ : ∃ u, u = l[l.length - 1]'hlast := ⟨_, rfl⟩
  have hor : bits .or .u8 (u.toNat : Int) 128 = (((u ||| 128).toNat : Nat) : Int) := by
    have h := u.toNat_lt
    rw [show (128 : Int) = ((128 : Nat) : Int) from rfl, u8_or_nat _ _ (by omega) (by omega), UInt8.toNat_or]; rfl
  rw [← hu] at hcl
  have HU := Lib.hid hu
  have HNE := Lib.hid hne
  obtain ⟨z, hz⟩ : ∃ z, z = (((u ||| 128).toNat : Nat) : Int) := ⟨_, rfl⟩
  rw [← hz] at hor
  have HZ := Lib.hid hz
  have hst := ho6'.stored (n6 - 1) (.int .u8 z)
  have HST := Lib.hid hst
  have hgl6 := hs6
  have e61 : ((n6 : Int) - 1).toNat = n6 - 1 := by omega
  have hi61 : (0 : Int) ≤ (n6 : Int) - 1 := by omega
  have hi62 : (n6 : Int) - 1 < (n6 : Int) := by omega
  clear hu hne hl ho6 hz hst x5
  go_wp2_with (at_builtin; refine wpList_append_own _ rfl (.tmp 58) (.tmp 59) 22 rfl w.heap.size 5 i0 (.int .u8 0) 1 1 Tryd.underlying22 hi hz0 hz1 hz2 rfl (by decide) _ _ _ rfl (HST.out.1.alloc _) ⟨w6.heap.size, 0, none⟩ 1 1 [.int .u8 0] rfl rfl ?c1 ?c2 ?c3 ?c4 ?c5 ?_)
  case c1 =>
    intro j v hj
    match j, hj with
    | 0, hj => simp at hj; subst hj; exact cell_new_set w6 _ _ _ _
  case c2 => intro v hv; simp at hv; subst hv; rfl
  case c3 => unfold maxLen; omega
  case c4 => omega
  case c5 => simp; have := hB6.size; omega
  intro v' w7 hown' hgrow _
  have hB7 : Below w.heap.size w w7 := (((hB6.setCell hb6 _).alloc (by simpa using hB6.size) _).grown hgrow (by simp; have := hB6.size; omega) (fun k hk => by simp [Value.ownBlock] at hk; omega))
  obtain ⟨A7, c7, rfl, ho7⟩ := own_bumped HNE.out n6 HN6.out (by rw [HZ.out, HU.out] at hown'; exact hown')
  have HBL : Hid ((bump l).length = n6 + 1) := Lib.hid (by rw [bump_length l HNE.out, HN6.out])
  obtain ⟨L, hL⟩ : ∃ L, L = bump l := ⟨_, rfl⟩
  rw [← hL] at ho7 HBL ⊢
  have HLB := Lib.hid hL
  clear hown' hgrow hL
  have hLl : L.length ≤ 11 := by have := HBL.out; omega
  go_wp2_with fail
  refine (newReader_any A7 _ c7 L w7 rfl (by omega) ho7.str).mono ?_
  rintro e w8 ⟨g, rfl, hR8, _, hg, hC8⟩
  have hB8 := hB7.trans (hC8.mono hB7.size)
  have hgw : w.heap.size ≤ g := Nat.le_trans hB7.size hg
  have HS8 := Lib.hid (HS.out.later hB8)
  clear ho7 hC8 HST hcl hfz
  go_wp2_with fail
  refine (num_fail g L 0 1 _ _ w8 _ _ _ hR8 HS8.out.errs (by omega) (by rw [List.drop_zero, HLB.out, HL.out]; exact numOf_bump a _ _)).mono ?_
  rintro e w9 ⟨rfl, hG9, b9, hbs, hb9, hR9⟩
  have hB9 := grown_below hB8 hG9 hB8.size hgw
  have HS9 := Lib.hid (HS.out.later hB9)
  have HB9 := Lib.hid hb9
  clear hR8 hG9 hb9
  go_wp2_with fail
  refine (err_bad g L 0 w9 _ _ hR9).mono ?_
  rintro e w10 ⟨rfl, rfl⟩
  go_wp2_with fail
  refine (placed_any _ _ w9 (by omega)).mono ?_
  rintro e w10 ⟨rfl, hC10⟩
  have HS10 := Lib.hid (HS9.out.later hC10)
  have HB10 := Lib.hid (HB9.out.below hC10 HB9.out.lt)
  have hB10 := hB9.trans (hC10.mono hB9.size)
  have hR10 := hR9.later hC10
  go_wp2_with fail
  refine (same_at' w10 ads 1 b9 _ _ _ _ HS10.out (HS10.out.pick 1 (by omega)) HB10.out (by omega) (by omega)).mono ?_
  rintro e w11 ⟨rfl, hC11⟩
  have hR11 := hR10.later hC11
  have hB11 := hB10.trans (hC11.mono hB10.size)
  go_wp2_with fail
  refine (at_any g L 0 _ w11 hR11).mono ?_
  rintro e w12 ⟨rfl, rfl⟩
  go_wp2
  go_ret
  exact RetYes.mk hB11

theorem forms_any (a b : Int) (w : World) (ads : List Addr) (hS : Sents w ads) (ha1 : -9223372036854775808 ≤ a) (ha2 : a ≤ 9223372036854775807) (hb1 : -9223372036854775808 ≤ b) (hb2 : b ≤ 9223372036854775807) :
    Calls Tryd.prog 4 #[.int .i64 a, .int .i64 b] w (RetYes w) := by
  by_cases hab : a = b
  · exact forms_eq a b w ads hS ha1 ha2 hb1 hb2 hab
  · by_cases hlen : (enc b).length < (enc a).length
    · exact forms_longer a b w ads hS ha1 ha2 hb1 hb2 hab hlen
    · exact forms_other a b w ads hS ha1 ha2 hb1 hb2 hab hlen
end Go.Proofs.YtehfcobceeeloaaDoor
