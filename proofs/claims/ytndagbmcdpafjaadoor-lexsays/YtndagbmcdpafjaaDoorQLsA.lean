/-
  The walks of the document's skip, word and sign over its pieces. Conditions: each theorem's own premises.
-/
import Derived.Test.YtndagbmcdpafjaaDoorQLxF
import Derived.Test.YtndagbmcdpafjaaDoorQTxS
import Derived.Test.YtndagbmcdpafjaaDoorQTxN
namespace Go.Proofs.YtndagbmcdpafjaaDoor
open Go.Shelf Go.RowKit Go.Lib

/-- The runes of a row of pieces, as they lie. -/
def PR (w : World) (g : Nat) (R : List Nat) : Prop := ∀ k, k < R.length → w.cell? ⟨g, k * 4, none⟩ = some (.int .i32 (at0 R k : Int))

set_option maxRecDepth 100000 in
set_option maxHeartbeats 1000000 in
theorem rword_any (g c : Nat) (R : List Nat) (len i : Nat) (w : World) (hl : len = R.length) (_ : len ≤ c) (hi : i ≤ len) (hz : len ≤ 100000) (h : PR w g R) :
    Calls Tryd.prog 28 #[.slice (some ⟨g, 0, none⟩) len c, .int .i64 (i : Int)] w (RetKn w (bh inNm R i)) := by
  have HL := Lib.hid hl
  have HR := Lib.hid h
  have HLt := Lib.hid (fun (r : Nat) W => rletter_any (r : Int) W)
  have HDg := Lib.hid (fun (r : Nat) W => rdigit_any (r : Int) W)
  clear hl h
  go_enter Tryd.func28, Tryd.ntmps28
  go_wp2_with fail
  go_loop [1] (fun x => ∃ k : Nat, k ≤ len ∧ x = .int .i64 (k : Int) ∧ bh inNm R i = bh inNm R k) (fun x => len - (RowKit.intOf x).toNat)
  case atStart => exact ⟨i, hi, rfl, rfl⟩
  case round =>
    obtain ⟨k, hk, rfl, he⟩ := hrel
    have HE := Lib.hid he
    clear he
    by_cases hp : k < len
    · have hlen := HL.out
      have hc := HR.out k (by omega)
      have HS := Lib.hid (bh_step (p := inNm) (R := R) (i := k) (by omega))
      have HT := Lib.hid (bh_stop (p := inNm) (R := R) (i := k) (by omega))
      have HL1 := Lib.hid (fun W => HLt.out (at0 R k) W)
      have HD1 := Lib.hid (fun W => HDg.out (at0 R k) W)
      obtain ⟨a, ha⟩ : ∃ a, a = at0 R k := ⟨_, rfl⟩
      rw [← ha] at hc HS HT HL1 HD1
      clear ha hlen
      cases hl : letB (a : Int)
      · rw [hl] at HL1
        cases hd : digB (a : Int)
        · rw [hd] at HD1
          by_cases h95 : a = 95
          · have h95' : ((a : Int) == 95) = true := by simp [h95]
            have HV := Lib.hid (HS.out (by simp [inNm, h95]))
            clear hl hd h95 HS HT
            go_wp2_with fail
            refine (HL1.out _).mono ?_
            rintro e w' ⟨rfl, rfl⟩
            go_wp2_with fail
            refine (HD1.out _).mono ?_
            rintro e w' ⟨rfl, rfl⟩
            go_wp2
            go_round
            case rel => exact ⟨k + 1, by omega, by go_num, by rw [HE.out, HV.out]⟩
            case measure => simp [RowKit.intOf]; omega
          · have h95' : ((a : Int) == 95) = false := beq_eq_false_iff_ne.2 (by omega)
            have HV := Lib.hid (HT.out (by simp [inNm, hl, hd, h95]))
            clear hl hd h95 HS HT
            go_wp2_with fail
            refine (HL1.out _).mono ?_
            rintro e w' ⟨rfl, rfl⟩
            go_wp2_with fail
            refine (HD1.out _).mono ?_
            rintro e w' ⟨rfl, rfl⟩
            go_wp2
            go_ret
            exact ⟨by rw [HE.out, HV.out]; rfl, rfl⟩
        · rw [hd] at HD1
          have HV := Lib.hid (HS.out (by simp [inNm, hd]))
          clear hl hd HS HT
          go_wp2_with fail
          refine (HL1.out _).mono ?_
          rintro e w' ⟨rfl, rfl⟩
          go_wp2_with fail
          refine (HD1.out _).mono ?_
          rintro e w' ⟨rfl, rfl⟩
          go_wp2
          go_round
          case rel => exact ⟨k + 1, by omega, by go_num, by rw [HE.out, HV.out]⟩
          case measure => simp [RowKit.intOf]; omega
      · rw [hl] at HL1
        have HV := Lib.hid (HS.out (by simp [inNm, hl]))
        clear hl HS HT HD1
        go_wp2_with fail
        refine (HL1.out _).mono ?_
        rintro e w' ⟨rfl, rfl⟩
        go_wp2
        go_round
        case rel => exact ⟨k + 1, by omega, by go_num, by rw [HE.out, HV.out]⟩
        case measure => simp [RowKit.intOf]; omega
    · have HV : Hid (bh inNm R k = k) := Lib.hid (bh_end (by have := HL.out; omega))
      go_wp2
      go_ret
      exact ⟨by rw [HE.out, HV.out]; rfl, rfl⟩

theorem sgn_two' (a b : Nat) : sgn a b = 2 ↔ (a = 60 ∧ (b = 62 ∨ b = 61)) ∨ (a = 62 ∧ b = 61) ∨ (a = 45 ∧ b = 62) := by
  unfold sgn
  split
  · simp [*]
  · split <;> simp [*]
set_option maxRecDepth 100000 in
set_option maxHeartbeats 4000000 in
theorem rsign_any (g c : Nat) (R : List Nat) (len i : Nat) (w : World) (hl : len = R.length) (_ : len ≤ c) (hi : i < len) (hz : len ≤ 100000) (h : PR w g R) :
    Calls Tryd.prog 33 #[.slice (some ⟨g, 0, none⟩) len c, .int .i64 (i : Int)] w (RetKn w (sgn (at0 R i) (at0 R (i + 1)))) := by
  have hc := h i (by omega)
  have hc1 : i + 1 < len → w.cell? ⟨g, (i + 1) * 4, none⟩ = some (.int .i32 (at0 R (i + 1) : Int)) := fun hlt => h (i + 1) (by omega)
  have hE : ¬ i + 1 < len → at0 R (i + 1) = 0 := fun hn => at0_ge (by omega)
  obtain ⟨a, ha⟩ : ∃ a, a = at0 R i := ⟨_, rfl⟩
  obtain ⟨b, hb⟩ : ∃ b, b = at0 R (i + 1) := ⟨_, rfl⟩
  rw [← ha] at hc ⊢
  rw [← hb] at hc1 hE ⊢
  clear ha hb hl h
  by_cases hn : i + 1 < len
  · have hc1 := hc1 hn
    clear hE
    go_enter Tryd.func33, Tryd.ntmps33
    go_wp2
    all_goals
      go_ret
      refine ⟨?_, rfl⟩
      congr 2
      try simp only [beq_iff_eq, beq_eq_false_iff_ne, ne_eq] at *
      unfold sgn
      split
      · first | rfl | omega
      · split <;> first | rfl | omega
  · have hE := hE hn
    subst hE
    go_enter Tryd.func33, Tryd.ntmps33
    go_wp2
    all_goals
      go_ret
      refine ⟨?_, rfl⟩
      congr 2
      try simp only [beq_iff_eq, beq_eq_false_iff_ne, ne_eq] at *
      unfold sgn
      split
      · first | rfl | omega
      · split <;> first | rfl | omega
end Go.Proofs.YtndagbmcdpafjaaDoor

/-
  The walk of the document's skip over its pieces. Conditions: its own premises.
-/
namespace Go.Proofs.YtndagbmcdpafjaaDoor
open Go.Shelf Go.RowKit Go.Lib

set_option maxRecDepth 100000 in
set_option maxHeartbeats 4000000 in
theorem rskip_any (g c : Nat) (R : List Nat) (len i : Nat) (w : World) (hl : len = R.length) (_ : len ≤ c) (hi : i ≤ len) (hz : len ≤ 100000) (h : PR w g R) :
    Calls Tryd.prog 26 #[.slice (some ⟨g, 0, none⟩) len c, .int .i64 (i : Int)] w (RetKn w (sk R i)) := by
  have HL := Lib.hid hl
  have HR := Lib.hid h
  have HBl := Lib.hid (fun (r : Nat) W => rblank_any (r : Int) W)
  clear hl h
  go_enter Tryd.func26, Tryd.ntmps26
  go_wp2_with fail
  go_loop [1] (fun x => ∃ k : Nat, k ≤ len ∧ x = .int .i64 (k : Int) ∧ skp (R.drop i) = skp (R.drop k)) (fun x => len - (RowKit.intOf x).toNat)
  case atStart => exact ⟨i, hi, rfl, rfl⟩
  case round =>
    obtain ⟨k, hk, rfl, he⟩ := hrel
    have HE := Lib.hid he
    clear he
    by_cases hp : k < len
    · have hlen := HL.out
      have hc := HR.out k (by omega)
      have hc1 : k + 1 < len → w.cell? ⟨g, (k + 1) * 4, none⟩ = some (.int .i32 (at0 R (k + 1) : Int)) := fun hlt => HR.out (k + 1) (by omega)
      have hE1 : ¬ k + 1 < len → at0 R (k + 1) = 0 := fun hn => at0_ge (by omega)
      have hS1 := skp_at R k
      have hS2 := skp_rem_at R k
      have hS3 := skp_stop_at R k
      have HBk := Lib.hid (fun W => HBl.out (at0 R k) W)
      have hG : at0 R k = 45 → k < bh noNl R k := fun h => bh_gt (p := noNl) (R := R) (i := k) (by omega) (by rw [h]; rfl)
      have hLe := bh_le noNl R k (by omega)
      have HO := Lib.hid (fun (he3 : skp (R.drop k) = R.drop k) => sk_of (R := R) (i := i) (k := k) (by omega) (he3.symm.trans HE.out.symm))
      obtain ⟨a, ha⟩ : ∃ a, a = at0 R k := ⟨_, rfl⟩
      have HA := Lib.hid ha
      rw [← ha] at hc hS1 hS2 hS3 HBk hG
      obtain ⟨b, hb⟩ : ∃ b, b = at0 R (k + 1) := ⟨_, rfl⟩
      rw [← hb] at hc1 hE1 hS2 hS3
      clear ha hb hlen
      cases hbl : blaB (a : Int)
      · rw [hbl] at HBk
        by_cases h45 : a = 45
        · have h45' : ((a : Int) == 45) = true := by simp [h45]
          have h45n : ((a : Int) != 45) = false := by simp [h45]
          by_cases hk1 : k + 1 < len
          · have hc1 := hc1 hk1
            by_cases hb45 : b = 45
            · have hb45' : ((b : Int) != 45) = false := by simp [hb45]
              have HV := Lib.hid (hS2 hbl h45 hb45)
              have HGt := Lib.hid (hG h45)
              have HLe := Lib.hid hLe
              clear hbl h45 hb45 hS1 hS2 hS3 hE1 hG hLe
              go_wp2_with fail
              refine (HBk.out _).mono ?_
              rintro e w' ⟨rfl, rfl⟩
              go_wp2
              have hk6 := hk
              clear hc hc1 h45' h45n hb45'
              go_loop [1] (fun x => ∃ m : Nat, m ≤ len ∧ x = .int .i64 (m : Int) ∧ bh noNl R k = bh noNl R m) (fun x => len - (RowKit.intOf x).toNat)
              case atStart => exact ⟨k, by omega, rfl, rfl⟩
              case round =>
                obtain ⟨m, hm, rfl, he2⟩ := hrel
                have HE2 := Lib.hid he2
                clear he2
                by_cases hp2 : m < len
                · have hlen := HL.out
                  have hc2 := HR.out m (by omega)
                  have HS := Lib.hid (bh_step (p := noNl) (R := R) (i := m) (by omega))
                  have HT := Lib.hid (bh_stop (p := noNl) (R := R) (i := m) (by omega))
                  obtain ⟨x, hx⟩ : ∃ x, x = at0 R m := ⟨_, rfl⟩
                  rw [← hx] at hc2 HS HT
                  clear hx hlen
                  by_cases h10 : x = 10
                  · have h10' : ((x : Int) != 10) = false := by simp [h10]
                    have hY := HT.out (by simp [noNl, h10])
                    have hgt : k < m := by have := HGt.out; have := HE2.out; omega
                    have HY := Lib.hid (show skp (R.drop i) = skp (R.drop m) by rw [HE.out, HV.out, HE2.out, hY])
                    clear h10 HS HT hY
                    go_wp2
                    go_round
                    case rel => exact ⟨m, by omega, rfl, HY.out⟩
                    case measure => simp [RowKit.intOf]; omega
                  · have h10' : ((x : Int) != 10) = true := by simp; omega
                    have HY := Lib.hid (HS.out (by simp [noNl, h10]))
                    clear h10 HS HT
                    go_wp2
                    go_round
                    case rel => exact ⟨m + 1, by omega, by go_num, by rw [HE2.out, HY.out]⟩
                    case measure => simp [RowKit.intOf]; omega
                · have hY : bh noNl R m = m := bh_end (by have := HL.out; omega)
                  have hgt : k < m := by omega
                  have HY := Lib.hid (show skp (R.drop i) = skp (R.drop m) by rw [HE.out, HV.out, HE2.out, hY])
                  clear hY
                  go_wp2
                  go_round
                  case rel => exact ⟨m, by omega, rfl, HY.out⟩
                  case measure => simp [RowKit.intOf]; omega
            · have hb45' : ((b : Int) != 45) = true := by simp; omega
              have HV := Lib.hid (HO.out (hS3 hbl (by omega)))
              clear hbl h45 hb45 hS1 hS2 hS3 hE1 hG hLe
              go_wp2_with fail
              refine (HBk.out _).mono ?_
              rintro e w' ⟨rfl, rfl⟩
              go_wp2
              go_ret
              exact ⟨by rw [← HV.out]; rfl, rfl⟩
          · have hE1 := hE1 hk1
            have HV := Lib.hid (HO.out (hS3 hbl (by omega)))
            clear hbl h45 hS1 hS2 hS3 hE1 hG hLe hc1
            go_wp2_with fail
            refine (HBk.out _).mono ?_
            rintro e w' ⟨rfl, rfl⟩
            go_wp2
            go_ret
            exact ⟨by rw [← HV.out]; rfl, rfl⟩
        · have h45' : ((a : Int) != 45) = true := by simp; omega
          have HV := Lib.hid (HO.out (hS3 hbl (by omega)))
          clear hbl h45 hS1 hS2 hS3 hE1 hG hLe hc1
          go_wp2_with fail
          refine (HBk.out _).mono ?_
          rintro e w' ⟨rfl, rfl⟩
          go_wp2
          go_ret
          exact ⟨by rw [← HV.out]; rfl, rfl⟩
      · rw [hbl] at HBk
        have HV := Lib.hid (hS1 hbl)
        clear hbl hS1 hS2 hS3 hE1 hG hLe hc1
        go_wp2_with fail
        refine (HBk.out _).mono ?_
        rintro e w' ⟨rfl, rfl⟩
        go_wp2
        go_round
        case rel => exact ⟨k + 1, by omega, by go_num, by rw [HE.out, HV.out]⟩
        case measure => simp [RowKit.intOf]; omega
    · have HV := Lib.hid (sk_of (R := R) (i := i) (k := k) (by have := HL.out; omega) (by rw [HE.out, List.drop_eq_nil_of_le (by have := HL.out; omega), skp_nil]))
      go_wp2
      go_ret
      exact ⟨by rw [← HV.out]; rfl, rfl⟩
end Go.Proofs.YtndagbmcdpafjaaDoor

/-
  The walk of the document's number over digits. Conditions: its own premises.
-/
namespace Go.Proofs.YtndagbmcdpafjaaDoor
open Go.Shelf Go.RowKit Go.Lib

theorem fold_big : ∀ (l : List UInt8) (a : Nat), a * 10 ^ l.length ≤ l.foldl (fun a c => a * 10 + (c.toNat - 48)) a
  | [], a => by simp
  | c :: r, a => by
    have := fold_big r (a * 10 + (c.toNat - 48))
    rw [List.foldl_cons, List.length_cons, Nat.pow_succ]
    refine Nat.le_trans ?_ this
    rw [Nat.mul_comm (10 ^ r.length) 10, ← Nat.mul_assoc]
    exact Nat.mul_le_mul_right _ (by omega)
theorem dval_long {l : List UInt8} (hd : allDig l) (h0 : l.head? ≠ some 48) (h : 19 < l.length) : 9223372036854775807 < dval l := by
  cases l with
  | nil => simp at h
  | cons c r =>
    have hc := hd c (by simp)
    have hc0 : c.toNat ≠ 48 := fun e => h0 (by
      have : c = 48 := UInt8.toNat_inj.1 e
      rw [this]
      rfl)
    have h1 := fold_big r (c.toNat - 48)
    have h2 : 10 ^ 19 ≤ 10 ^ r.length := Nat.pow_le_pow_right (by decide) (by simp at h; omega)
    have h3 : 1 * 10 ^ r.length ≤ (c.toNat - 48) * 10 ^ r.length := Nat.mul_le_mul_right _ (by omega)
    have h4 : dval (c :: r) = r.foldl (fun a c => a * 10 + (c.toNat - 48)) (c.toNat - 48) := by unfold dval; rw [List.foldl_cons, Nat.zero_mul, Nat.zero_add]
    rw [h4]
    have h5 : (10 : Nat) ^ 19 = 10000000000000000000 := by decide
    omega
theorem dval_take {l : List UInt8} {i : Nat} (h : i < l.length) : dval (l.take (i + 1)) = dval (l.take i) * 10 + (l[i].toNat - 48) := by
  have : l.take (i + 1) = l.take i ++ [l[i]] := by simp
  rw [this]
  unfold dval
  rw [List.foldl_append]
  rfl
theorem dval_take_le (l : List UInt8) (i : Nat) : dval (l.take i) ≤ dval l := by
  have h : dval l = (l.drop i).foldl (fun a c => a * 10 + (c.toNat - 48)) (dval (l.take i)) := by
    unfold dval
    rw [← List.foldl_append, List.take_append_drop]
  rw [h]
  exact dval_ge _ _
/-- What number answers. -/
def numV (l : List UInt8) : Value := match numB l with
  | some v => .tuple #[.int .i64 (v : Int), .bool true]
  | none => .tuple #[.int .i64 0, .bool false]
theorem numV_bad {l : List UInt8} (h : (1 < l.length ∧ l.head? = some 48) ∨ 9223372036854775807 < dval l) : numV l = .tuple #[.int .i64 0, .bool false] := by unfold numV numB; rw [if_pos h]
theorem numV_ok {l : List UInt8} (h : ¬ ((1 < l.length ∧ l.head? = some 48) ∨ 9223372036854775807 < dval l)) : numV l = .tuple #[.int .i64 (dval l : Int), .bool true] := by unfold numV numB; rw [if_neg h]

set_option maxRecDepth 100000 in
set_option maxHeartbeats 2000000 in
theorem rnumber_any (S : ByteArray) (l : List UInt8) (w : World) (hS : S.data.toList = l) (hd : allDig l) (hn : l ≠ []) :
    Calls Tryd.prog 32 #[.string S] w fun e w' => e = .returned (numV l) ∧ w = w' := by
  have hz : S.size = l.length := by rw [← hS]; simp
  have hl0 : 0 < l.length := List.length_pos_iff.2 hn
  have hget : ∀ i (h : i < l.length) (h2 : i < S.size), S[i] = l[i] := fun i h h2 => by subst hS; rfl
  have HG := Lib.hid hget
  have HD := Lib.hid hd
  have hS0 : S[0] = l[0] := hget 0 hl0 (by omega)
  have hhd : l.head? = some l[0] := by rw [List.head?_eq_getElem?, List.getElem?_eq_getElem]
  obtain ⟨c0, hc0⟩ : ∃ c0, c0 = l[0] := ⟨_, rfl⟩
  rw [← hc0] at hS0 hhd
  have HS := Lib.hid hS
  clear hget hc0 hS hn
  by_cases hbad : (1 < l.length ∧ c0 = 48) ∨ 19 < l.length
  · have HV := Lib.hid (numV_bad (l := l) (by
      rcases hbad with h | h
      · exact .inl ⟨h.1, by rw [hhd, h.2]⟩
      · by_cases h48 : c0 = 48
        · exact .inl ⟨by omega, by rw [hhd, h48]⟩
        · exact .inr (dval_long HD.out (by rw [hhd]; simpa using h48) h)))
    have h1 : 1 < l.length := by omega
    by_cases h48 : c0 = 48
    · subst h48
      clear hbad hhd
      go_enter Tryd.func32, Tryd.ntmps32
      go_wp2
      exact bodyPost_ret (v := .tuple #[.int .i64 0, .bool false]) (by simp [results, Tryd.results32, go_sem]) rfl ⟨by rw [HV.out], rfl⟩
    · have h19 : 19 < l.length := by
        rcases hbad with h | h
        · exact absurd h.2 h48
        · exact h
      have hcn : ((c0.toNat : Int) == 48) = false := beq_eq_false_iff_ne.2 (fun e => h48 (UInt8.toNat_inj.1 (by show c0.toNat = 48; omega)))
      clear hbad hhd h48
      go_enter Tryd.func32, Tryd.ntmps32
      go_wp2
      exact bodyPost_ret (v := .tuple #[.int .i64 0, .bool false]) (by simp [results, Tryd.results32, go_sem]) rfl ⟨by rw [HV.out], rfl⟩
  · have h19 : l.length ≤ 19 := by omega
    have HVb := Lib.hid (fun (h : 9223372036854775807 < dval l) => numV_bad (l := l) (.inr h))
    have HVo := Lib.hid (fun (h : dval l ≤ 9223372036854775807) => numV_ok (l := l) (by
      rintro (⟨h1, h2⟩ | h2)
      · exact hbad (.inl ⟨h1, by rw [hhd] at h2; exact Option.some.inj h2⟩)
      · omega))
    by_cases h1 : 1 < l.length
    · have hcn : ((c0.toNat : Int) == 48) = false := beq_eq_false_iff_ne.2 (fun e => hbad (.inl ⟨h1, UInt8.toNat_inj.1 (by show c0.toNat = 48; omega)⟩))
      clear hbad hhd
      go_enter Tryd.func32, Tryd.ntmps32
      go_wp2
      go_loop [4, 5] (fun x i => ∃ k : Nat, k ≤ l.length ∧ x = .int .i64 (dval (l.take k) : Int) ∧ i = .int .i64 (k : Int) ∧ dval (l.take k) ≤ 9223372036854775807) (fun _ i => l.length - (RowKit.intOf i).toNat)
      case atStart => exact ⟨0, by omega, rfl, rfl, by simp [dval]⟩
      case round =>
        obtain ⟨k, hk, rfl, rfl, hle⟩ := hrel
        by_cases hp : k < l.length
        · have hSk : S[k] = l[k] := HG.out k hp (by omega)
          have hck := HD.out l[k] (List.getElem_mem hp)
          have HT := Lib.hid (dval_take hp)
          have HTl := Lib.hid (dval_take_le l (k + 1))
          obtain ⟨c, hc⟩ : ∃ c, c = l[k] := ⟨_, rfl⟩
          rw [← hc] at hSk hck HT
          obtain ⟨d, hd2⟩ : ∃ d, d = c.toNat - 48 := ⟨_, rfl⟩
          obtain ⟨n, hn2⟩ : ∃ n, n = dval (l.take k) := ⟨_, rfl⟩
          rw [← hn2] at hle HT ⊢
          rw [← hd2] at HT
          have hd9 : d ≤ 9 := by omega
          have hw0 : IntKind.u8.wrap ((c.toNat : Int) - 48) = (d : Int) := by rw [IntKind.wrap_u8]; omega
          have hw1 : IntKind.i64.wrap (d : Int) = (d : Int) := by rw [IntKind.wrap_i64]; omega
          have hw2 : IntKind.i64.wrap (9223372036854775807 - (d : Int)) = 9223372036854775807 - (d : Int) := by rw [IntKind.wrap_i64]; omega
          have hq : (9223372036854775807 - (d : Int)).tdiv 10 = (9223372036854775807 - (d : Int)) / 10 := Int.tdiv_eq_ediv_of_nonneg (by omega)
          have hw3 : IntKind.i64.wrap ((9223372036854775807 - (d : Int)) / 10) = (9223372036854775807 - (d : Int)) / 10 := by rw [IntKind.wrap_i64]; omega
          clear hc hck hd2 hn2
          by_cases hbig : 9223372036854775807 < n * 10 + d
          · have hgt : (9223372036854775807 - (d : Int)) / 10 < (n : Int) := by omega
            have HV := Lib.hid (HVb.out (by have := HTl.out; rw [HT.out] at this; omega))
            clear hbig
            go_wp2
            exact bodyPost_ret (v := .tuple #[.int .i64 0, .bool false]) (by simp [results, Tryd.results32, go_sem]) rfl ⟨by rw [HV.out], rfl⟩
          · have hgt : (n : Int) ≤ (9223372036854775807 - (d : Int)) / 10 := by omega
            have hw4 : IntKind.i64.wrap ((n : Int) * 10) = (n : Int) * 10 := by rw [IntKind.wrap_i64]; omega
            have hw5 : IntKind.i64.wrap ((n : Int) * 10 + (d : Int)) = (n : Int) * 10 + (d : Int) := by rw [IntKind.wrap_i64]; omega
            go_wp2
            go_round
            case rel => exact ⟨k + 1, by omega, by rw [HT.out]; go_num, by go_num, by rw [HT.out]; omega⟩
            case measure => simp [RowKit.intOf]; omega
        · obtain rfl : k = l.length := by omega
          rw [List.take_length] at hle ⊢
          have HV := Lib.hid (HVo.out hle)
          go_wp2
          exact bodyPost_ret (v := .tuple #[.int .i64 (dval l : Int), .bool true]) (by simp [results, Tryd.results32, go_sem]) rfl ⟨by rw [HV.out], rfl⟩
    · have h1' : l.length = 1 := by omega
      have hL1 : (l.length : Int) ≤ 1 := by omega
      clear hbad hhd
      go_enter Tryd.func32, Tryd.ntmps32
      go_wp2
      go_loop [4, 5] (fun x i => ∃ k : Nat, k ≤ l.length ∧ x = .int .i64 (dval (l.take k) : Int) ∧ i = .int .i64 (k : Int) ∧ dval (l.take k) ≤ 9223372036854775807) (fun _ i => l.length - (RowKit.intOf i).toNat)
      case atStart => exact ⟨0, by omega, rfl, rfl, by simp [dval]⟩
      case round =>
        obtain ⟨k, hk, rfl, rfl, hle⟩ := hrel
        by_cases hp : k < l.length
        · have hSk : S[k] = l[k] := HG.out k hp (by omega)
          have hck := HD.out l[k] (List.getElem_mem hp)
          have HT := Lib.hid (dval_take hp)
          have HTl := Lib.hid (dval_take_le l (k + 1))
          obtain ⟨c, hc⟩ : ∃ c, c = l[k] := ⟨_, rfl⟩
          rw [← hc] at hSk hck HT
          obtain ⟨d, hd2⟩ : ∃ d, d = c.toNat - 48 := ⟨_, rfl⟩
          obtain ⟨n, hn2⟩ : ∃ n, n = dval (l.take k) := ⟨_, rfl⟩
          rw [← hn2] at hle HT ⊢
          rw [← hd2] at HT
          have hd9 : d ≤ 9 := by omega
          have hw0 : IntKind.u8.wrap ((c.toNat : Int) - 48) = (d : Int) := by rw [IntKind.wrap_u8]; omega
          have hw1 : IntKind.i64.wrap (d : Int) = (d : Int) := by rw [IntKind.wrap_i64]; omega
          have hw2 : IntKind.i64.wrap (9223372036854775807 - (d : Int)) = 9223372036854775807 - (d : Int) := by rw [IntKind.wrap_i64]; omega
          have hq : (9223372036854775807 - (d : Int)).tdiv 10 = (9223372036854775807 - (d : Int)) / 10 := Int.tdiv_eq_ediv_of_nonneg (by omega)
          have hw3 : IntKind.i64.wrap ((9223372036854775807 - (d : Int)) / 10) = (9223372036854775807 - (d : Int)) / 10 := by rw [IntKind.wrap_i64]; omega
          clear hc hck hd2 hn2
          by_cases hbig : 9223372036854775807 < n * 10 + d
          · have hgt : (9223372036854775807 - (d : Int)) / 10 < (n : Int) := by omega
            have HV := Lib.hid (HVb.out (by have := HTl.out; rw [HT.out] at this; omega))
            clear hbig
            go_wp2
            exact bodyPost_ret (v := .tuple #[.int .i64 0, .bool false]) (by simp [results, Tryd.results32, go_sem]) rfl ⟨by rw [HV.out], rfl⟩
          · have hgt : (n : Int) ≤ (9223372036854775807 - (d : Int)) / 10 := by omega
            have hw4 : IntKind.i64.wrap ((n : Int) * 10) = (n : Int) * 10 := by rw [IntKind.wrap_i64]; omega
            have hw5 : IntKind.i64.wrap ((n : Int) * 10 + (d : Int)) = (n : Int) * 10 + (d : Int) := by rw [IntKind.wrap_i64]; omega
            go_wp2
            go_round
            case rel => exact ⟨k + 1, by omega, by rw [HT.out]; go_num, by go_num, by rw [HT.out]; omega⟩
            case measure => simp [RowKit.intOf]; omega
        · obtain rfl : k = l.length := by omega
          rw [List.take_length] at hle ⊢
          have HV := Lib.hid (HVo.out hle)
          go_wp2
          exact bodyPost_ret (v := .tuple #[.int .i64 (dval l : Int), .bool true]) (by simp [results, Tryd.results32, go_sem]) rfl ⟨by rw [HV.out], rfl⟩
end Go.Proofs.YtndagbmcdpafjaaDoor
