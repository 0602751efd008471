/-
  The walks of the lexer's small functions: at, inLine, inName, behind, skip. Conditions: each theorem's own premises.
-/
import Derived.Test.YtndagbmcdpafjaaDoorQLxB
namespace Go.Proofs.YtndagbmcdpafjaaDoor
open Go.Shelf Go.RowKit Go.Lib

/-- The runes, as they lie. -/
def Rns (w : World) (g : Nat) (R : List Nat) : Prop := ∃ k, Blk w g 21 (R.map (fun (r : Nat) => Value.int .i32 (r : Int)) ++ List.replicate k (Value.int .i32 0)).toArray
theorem Rns.cell {w : World} {g : Nat} {R : List Nat} (h : Rns w g R) {i : Nat} (hi : i < R.length) : w.cell? ⟨g, i, none⟩ = some (.int .i32 (at0 R i : Int)) := by
  obtain ⟨k, hb⟩ := h
  rw [hb.cell i, List.getElem?_toArray, List.getElem?_append_left (by simpa using hi), at0_lt hi]
  simp [hi]
theorem Rns.lt {w : World} {g : Nat} {R : List Nat} (h : Rns w g R) : g < w.heap.size := by obtain ⟨k, hb⟩ := h; exact hb.lt
theorem Rns.below {w w' : World} {g : Nat} {R : List Nat} {B : Nat} (h : Rns w g R) (hb : Below B w w') (hg : g < B) : Rns w' g R := by obtain ⟨k, hk⟩ := h; exact ⟨k, hk.below hb hg⟩
theorem Rns.drew {w : World} {g : Nat} {R : List Nat} (h : Rns w g R) : Rns w.drew g R := h
/-- It answers a place, and nothing has turned. -/
def RetKn (w : World) (n : Nat) (e : Ending) (w' : World) : Prop := e = .returned (.int .i64 (n : Int)) ∧ w = w'
/-- It answers a rune, and nothing has turned. -/
def RetKr (w : World) (n : Nat) (e : Ending) (w' : World) : Prop := e = .returned (.int .i32 (n : Int)) ∧ w = w'

set_option maxHeartbeats 400000 in
theorem at_any (g c : Nat) (R : List Nat) (len i : Nat) (w : World) (hl : len = R.length) (h : Rns w g R) : Calls Tryd.prog 83 #[.slice (some ⟨g, 0, none⟩) len c, .int .i64 (i : Int)] w (RetKr w (at0 R i)) := by
  have HL := Lib.hid hl
  by_cases hi : i < len
  · have hc := h.cell (i := i) (by omega)
    obtain ⟨a, ha⟩ : ∃ a, a = at0 R i := ⟨_, rfl⟩
    rw [← ha] at hc ⊢
    clear ha hl h
    go_enter Tryd.func83, Tryd.ntmps83
    go_wp2
    go_ret
    exact ⟨rfl, rfl⟩
  · rw [at0_ge (by omega)]
    clear hl h
    go_enter Tryd.func83, Tryd.ntmps83
    go_wp2
    go_ret
    exact ⟨rfl, rfl⟩
set_option maxHeartbeats 400000 in
theorem inLine_any (r : Nat) (w : World) : Calls Tryd.prog 115 #[.int .i32 (r : Int)] w (RetKb w (noNl r)) := by
  by_cases h : r = 10
  · subst h
    go_enter Tryd.func115, Tryd.ntmps115
    go_wp2
    go_ret
    exact ⟨rfl, rfl⟩
  · have h' : ((r : Int) != 10) = true := by simp; omega
    have HK : Hid (noNl r = true) := Lib.hid (by simp [noNl, h])
    clear h
    go_enter Tryd.func115, Tryd.ntmps115
    go_wp2
    go_ret
    exact ⟨by rw [HK.out]; first | rfl | exact ret_bool (by simpa using h'), rfl⟩
set_option maxHeartbeats 400000 in
theorem inName_any (r : Nat) (w : World) : Calls Tryd.prog 116 #[.int .i32 (r : Int)] w (RetKb w (inNm r)) := by
  have HL := Lib.hid (fun W => letter_any (r : Int) W)
  have HD := Lib.hid (fun W => digit_any (r : Int) W)
  cases hl : letB (r : Int)
  · rw [hl] at HL
    cases hd : digB (r : Int)
    · rw [hd] at HD
      by_cases h : r = 95
      · have HK : Hid (inNm r = true) := Lib.hid (by simp [inNm, h])
        have h' : ((r : Int) == 95) = true := by simp [h]
        clear hl hd h
        go_enter Tryd.func116, Tryd.ntmps116
        go_wp2_with fail
        refine (HL.out _).mono ?_
        rintro e w' ⟨rfl, rfl⟩
        go_wp2_with fail
        refine (HD.out _).mono ?_
        rintro e w' ⟨rfl, rfl⟩
        go_wp2
        go_ret
        exact ⟨by rw [HK.out]; first | rfl | exact ret_bool h', rfl⟩
      · have HK : Hid (inNm r = false) := Lib.hid (by simp [inNm, hl, hd, h])
        have h' : ((r : Int) == 95) = false := beq_eq_false_iff_ne.2 (by omega)
        clear hl hd h
        go_enter Tryd.func116, Tryd.ntmps116
        go_wp2_with fail
        refine (HL.out _).mono ?_
        rintro e w' ⟨rfl, rfl⟩
        go_wp2_with fail
        refine (HD.out _).mono ?_
        rintro e w' ⟨rfl, rfl⟩
        go_wp2
        go_ret
        exact ⟨by rw [HK.out]; first | rfl | exact ret_bool h', rfl⟩
    · rw [hd] at HD
      have HK : Hid (inNm r = true) := Lib.hid (by simp [inNm, hd])
      clear hl hd
      go_enter Tryd.func116, Tryd.ntmps116
      go_wp2_with fail
      refine (HL.out _).mono ?_
      rintro e w' ⟨rfl, rfl⟩
      go_wp2_with fail
      refine (HD.out _).mono ?_
      rintro e w' ⟨rfl, rfl⟩
      go_wp2
      go_ret
      exact ⟨by rw [HK.out]; rfl, rfl⟩
  · rw [hl] at HL
    have HK : Hid (inNm r = true) := Lib.hid (by simp [inNm, hl])
    clear hl HD
    go_enter Tryd.func116, Tryd.ntmps116
    go_wp2_with fail
    refine (HL.out _).mono ?_
    rintro e w' ⟨rfl, rfl⟩
    go_wp2
    go_ret
    exact ⟨by rw [HK.out]; rfl, rfl⟩
theorem isDig_any (r : Nat) (w : World) : Calls Tryd.prog 86 #[.int .i32 (r : Int)] w (RetKb w (isDig r)) := digit_any (r : Int) w

set_option maxRecDepth 100000 in
set_option maxHeartbeats 1000000 in
theorem behind_line (g c : Nat) (R : List Nat) (len i : Nat) (w : World) (hl : len = R.length) (hi : i ≤ len) (hz : len ≤ 1099511627776) (h : Rns w g R) :
    Calls Tryd.prog 114 #[.slice (some ⟨g, 0, none⟩) len c, .int .i64 (i : Int), .func (.func 115) #[] #[]] w (RetKn w (bh noNl R i)) := by
  have HL := Lib.hid hl
  have HR := Lib.hid h
  have HF := Lib.hid (fun r W => inLine_any r W)
  clear hl h
  go_enter Tryd.func114, Tryd.ntmps114
  go_wp2_with fail
  go_loop [1] (fun x => ∃ k : Nat, k ≤ len ∧ x = .int .i64 (k : Int) ∧ bh noNl R i = bh noNl R k) (fun x => len - (intOf x).toNat)
  case atStart => exact ⟨i, hi, rfl, rfl⟩
  case round =>
    obtain ⟨k, hk, rfl, he⟩ := hrel
    have HE := Lib.hid he
    clear he
    by_cases hp : k < len
    · have hlen := HL.out
      have hc := HR.out.cell (i := k) (by omega)
      have HS := Lib.hid (bh_step (p := noNl) (R := R) (i := k) (by omega))
      have HT := Lib.hid (bh_stop (p := noNl) (R := R) (i := k) (by omega))
      have HQ := Lib.hid (fun W => HF.out (at0 R k) W)
      obtain ⟨a, ha⟩ : ∃ a, a = at0 R k := ⟨_, rfl⟩
      rw [← ha] at hc HS HT HQ
      clear ha hlen
      cases hb : noNl a
      · rw [hb] at HQ
        have HV := Lib.hid (HT.out hb)
        clear hb HS HT
        go_wp2_with fail
        refine (HQ.out _).mono ?_
        rintro e w' ⟨rfl, rfl⟩
        go_wp2
        go_ret
        exact ⟨by rw [HE.out, HV.out]; rfl, rfl⟩
      · rw [hb] at HQ
        have HV := Lib.hid (HS.out hb)
        clear hb HS HT
        go_wp2_with fail
        refine (HQ.out _).mono ?_
        rintro e w' ⟨rfl, rfl⟩
        go_wp2
        go_round
        case rel => exact ⟨k + 1, by omega, by go_num, by rw [HE.out, HV.out]⟩
        case measure => simp [intOf]; omega
    · have HV : Hid (bh noNl R k = k) := Lib.hid (bh_end (by have := HL.out; omega))
      go_wp2
      go_ret
      exact ⟨by rw [HE.out, HV.out]; rfl, rfl⟩

set_option maxRecDepth 100000 in
set_option maxHeartbeats 1000000 in
theorem behind_name (g c : Nat) (R : List Nat) (len i : Nat) (w : World) (hl : len = R.length) (hi : i ≤ len) (hz : len ≤ 1099511627776) (h : Rns w g R) :
    Calls Tryd.prog 114 #[.slice (some ⟨g, 0, none⟩) len c, .int .i64 (i : Int), .func (.func 116) #[] #[]] w (RetKn w (bh inNm R i)) := by
  have HL := Lib.hid hl
  have HR := Lib.hid h
  have HF := Lib.hid (fun r W => inName_any r W)
  clear hl h
  go_enter Tryd.func114, Tryd.ntmps114
  go_wp2_with fail
  go_loop [1] (fun x => ∃ k : Nat, k ≤ len ∧ x = .int .i64 (k : Int) ∧ bh inNm R i = bh inNm R k) (fun x => len - (intOf x).toNat)
  case atStart => exact ⟨i, hi, rfl, rfl⟩
  case round =>
    obtain ⟨k, hk, rfl, he⟩ := hrel
    have HE := Lib.hid he
    clear he
    by_cases hp : k < len
    · have hlen := HL.out
      have hc := HR.out.cell (i := k) (by omega)
      have HS := Lib.hid (bh_step (p := inNm) (R := R) (i := k) (by omega))
      have HT := Lib.hid (bh_stop (p := inNm) (R := R) (i := k) (by omega))
      have HQ := Lib.hid (fun W => HF.out (at0 R k) W)
      obtain ⟨a, ha⟩ : ∃ a, a = at0 R k := ⟨_, rfl⟩
      rw [← ha] at hc HS HT HQ
      clear ha hlen
      cases hb : inNm a
      · rw [hb] at HQ
        have HV := Lib.hid (HT.out hb)
        clear hb HS HT
        go_wp2_with fail
        refine (HQ.out _).mono ?_
        rintro e w' ⟨rfl, rfl⟩
        go_wp2
        go_ret
        exact ⟨by rw [HE.out, HV.out]; rfl, rfl⟩
      · rw [hb] at HQ
        have HV := Lib.hid (HS.out hb)
        clear hb HS HT
        go_wp2_with fail
        refine (HQ.out _).mono ?_
        rintro e w' ⟨rfl, rfl⟩
        go_wp2
        go_round
        case rel => exact ⟨k + 1, by omega, by go_num, by rw [HE.out, HV.out]⟩
        case measure => simp [intOf]; omega
    · have HV : Hid (bh inNm R k = k) := Lib.hid (bh_end (by have := HL.out; omega))
      go_wp2
      go_ret
      exact ⟨by rw [HE.out, HV.out]; rfl, rfl⟩

set_option maxRecDepth 100000 in
set_option maxHeartbeats 1000000 in
theorem behind_dig (g c : Nat) (R : List Nat) (len i : Nat) (w : World) (hl : len = R.length) (hi : i ≤ len) (hz : len ≤ 1099511627776) (h : Rns w g R) :
    Calls Tryd.prog 114 #[.slice (some ⟨g, 0, none⟩) len c, .int .i64 (i : Int), .func (.func 86) #[] #[]] w (RetKn w (bh isDig R i)) := by
  have HL := Lib.hid hl
  have HR := Lib.hid h
  have HF := Lib.hid (fun r W => isDig_any r W)
  clear hl h
  go_enter Tryd.func114, Tryd.ntmps114
  go_wp2_with fail
  go_loop [1] (fun x => ∃ k : Nat, k ≤ len ∧ x = .int .i64 (k : Int) ∧ bh isDig R i = bh isDig R k) (fun x => len - (intOf x).toNat)
  case atStart => exact ⟨i, hi, rfl, rfl⟩
  case round =>
    obtain ⟨k, hk, rfl, he⟩ := hrel
    have HE := Lib.hid he
    clear he
    by_cases hp : k < len
    · have hlen := HL.out
      have hc := HR.out.cell (i := k) (by omega)
      have HS := Lib.hid (bh_step (p := isDig) (R := R) (i := k) (by omega))
      have HT := Lib.hid (bh_stop (p := isDig) (R := R) (i := k) (by omega))
      have HQ := Lib.hid (fun W => HF.out (at0 R k) W)
      obtain ⟨a, ha⟩ : ∃ a, a = at0 R k := ⟨_, rfl⟩
      rw [← ha] at hc HS HT HQ
      clear ha hlen
      cases hb : isDig a
      · rw [hb] at HQ
        have HV := Lib.hid (HT.out hb)
        clear hb HS HT
        go_wp2_with fail
        refine (HQ.out _).mono ?_
        rintro e w' ⟨rfl, rfl⟩
        go_wp2
        go_ret
        exact ⟨by rw [HE.out, HV.out]; rfl, rfl⟩
      · rw [hb] at HQ
        have HV := Lib.hid (HS.out hb)
        clear hb HS HT
        go_wp2_with fail
        refine (HQ.out _).mono ?_
        rintro e w' ⟨rfl, rfl⟩
        go_wp2
        go_round
        case rel => exact ⟨k + 1, by omega, by go_num, by rw [HE.out, HV.out]⟩
        case measure => simp [intOf]; omega
    · have HV : Hid (bh isDig R k = k) := Lib.hid (bh_end (by have := HL.out; omega))
      go_wp2
      go_ret
      exact ⟨by rw [HE.out, HV.out]; rfl, rfl⟩

theorem skp_at (R : List Nat) (k : Nat) (h : blaB (at0 R k : Int) = true) : skp (R.drop k) = skp (R.drop (k + 1)) := by
  have hk : k < R.length := Nat.lt_of_not_le fun hle => by rw [at0_ge hle] at h; revert h; decide
  rw [drop_at0 hk, skp_bla _ h]
theorem skp_rem_at (R : List Nat) (k : Nat) (hb : blaB (at0 R k : Int) = false) (h : at0 R k = 45) (h1 : at0 R (k + 1) = 45) : skp (R.drop k) = skp (R.drop (bh noNl R k)) := by
  have hk : k < R.length := Nat.lt_of_not_le fun hle => by rw [at0_ge hle] at h; omega
  rw [bh_drop, drop_at0 hk, skp_rem hb h ((head_at0 (by decide)).2 h1)]
theorem skp_stop_at (R : List Nat) (k : Nat) (hb : blaB (at0 R k : Int) = false) (h : ¬ (at0 R k = 45 ∧ at0 R (k + 1) = 45)) : skp (R.drop k) = R.drop k := by
  by_cases hk : k < R.length
  · rw [drop_at0 hk, skp_stop hb (fun h2 => h ⟨h2.1, (head_at0 (by decide)).1 h2.2⟩)]
  · rw [List.drop_eq_nil_of_le (by omega), skp_nil]

set_option maxRecDepth 100000 in
set_option maxHeartbeats 1000000 in
theorem skip_any (g c : Nat) (R : List Nat) (len i : Nat) (w : World) (hl : len = R.length) (hi : i ≤ len) (hz : len ≤ 1099511627776) (h : Rns w g R) :
    Calls Tryd.prog 82 #[.slice (some ⟨g, 0, none⟩) len c, .int .i64 (i : Int)] w (RetKn w (sk R i)) := by
  have HL := Lib.hid hl
  have HR := Lib.hid h
  have HA := Lib.hid (fun k => at_any g c R len k w hl h)
  have HBl := Lib.hid (fun r W => blank_any r W)
  have HBh := Lib.hid (fun k hk => behind_line g c R len k w hl hk hz h)
  clear hl h
  go_enter Tryd.func82, Tryd.ntmps82
  go_wp2_with fail
  go_loop [1] (fun x => ∃ k : Nat, k ≤ len ∧ x = .int .i64 (k : Int) ∧ skp (R.drop i) = skp (R.drop k)) (fun x => len - (intOf x).toNat)
  case atStart => exact ⟨i, hi, rfl, rfl⟩
  case round =>
    obtain ⟨k, hk, rfl, he⟩ := hrel
    have HE := Lib.hid he
    clear he
    have HA0 := Lib.hid (HA.out k)
    have HA1 := Lib.hid (HA.out (k + 1))
    rw [Int.natCast_add, show ((1 : Nat) : Int) = 1 from rfl] at HA1
    have HBk := Lib.hid (fun W => HBl.out (at0 R k : Int) W)
    have hE0 := fun (hle : len ≤ k) => at0_ge (R := R) (i := k) (by have := HL.out; omega)
    have hS1 := skp_at R k
    have hS2 := skp_rem_at R k
    have hS3 := skp_stop_at R k
    obtain ⟨a, ha⟩ : ∃ a, a = at0 R k := ⟨_, rfl⟩
    rw [← ha] at HA0 HBk hE0 hS1 hS2 hS3
    obtain ⟨b, hb⟩ : ∃ b, b = at0 R (k + 1) := ⟨_, rfl⟩
    rw [← hb] at HA1 hS2 hS3
    have HG := Lib.hid (fun (h : a = 45) => bh_gt (p := noNl) (R := R) (i := k) (by
      have := HL.out
      rcases Nat.lt_or_ge k len with hl | hl
      · omega
      · have := hE0 hl; omega) (by rw [← ha, h]; rfl))
    clear ha hb
    cases hbl : blaB (a : Int)
    · rw [hbl] at HBk
      by_cases h45 : a = 45
      · have h45' : ((a : Int) == 45) = true := by simp [h45]
        by_cases hb45 : b = 45
        · have hb45' : ((b : Int) == 45) = true := by simp [hb45]
          have HV := Lib.hid (hS2 hbl h45 hb45)
          have HY := Lib.hid (HBh.out k hk)
          have HGt := Lib.hid (HG.out h45)
          have HLe := Lib.hid (bh_le noNl R k (by have := HL.out; omega))
          obtain ⟨m, hm⟩ : ∃ m, m = bh noNl R k := ⟨_, rfl⟩
          rw [← hm] at HY HV HGt HLe
          clear hm hbl h45 hb45 hS1 hS2 hS3 hE0
          go_wp2_with fail
          refine HA0.out.mono ?_
          rintro e w' ⟨rfl, rfl⟩
          go_wp2_with fail
          refine (HBk.out _).mono ?_
          rintro e w' ⟨rfl, rfl⟩
          go_wp2_with fail
          refine HA0.out.mono ?_
          rintro e w' ⟨rfl, rfl⟩
          go_wp2_with fail
          refine HA1.out.mono ?_
          rintro e w' ⟨rfl, rfl⟩
          go_wp2_with fail
          refine HY.out.mono ?_
          rintro e w' ⟨rfl, rfl⟩
          have hmle : m ≤ len := by
            have := HLe.out
            have := HL.out
            omega
          have hgt := HGt.out
          go_wp2
          go_round
          case rel => exact ⟨m, by omega, rfl, by rw [HE.out, HV.out]⟩
          case measure => simp [intOf]; omega
        · have hb45' : ((b : Int) == 45) = false := beq_eq_false_iff_ne.2 (by omega)
          have HV := Lib.hid (sk_of (R := R) (i := i) (by have := HL.out; omega) ((hS3 hbl (by omega)).symm.trans HE.out.symm))
          clear hbl h45 hb45 hS1 hS2 hS3 hE0 HBh
          go_wp2_with fail
          refine HA0.out.mono ?_
          rintro e w' ⟨rfl, rfl⟩
          go_wp2_with fail
          refine (HBk.out _).mono ?_
          rintro e w' ⟨rfl, rfl⟩
          go_wp2_with fail
          refine HA0.out.mono ?_
          rintro e w' ⟨rfl, rfl⟩
          go_wp2_with fail
          refine HA1.out.mono ?_
          rintro e w' ⟨rfl, rfl⟩
          go_wp2
          go_ret
          exact ⟨by rw [← HV.out]; rfl, rfl⟩
      · have h45' : ((a : Int) == 45) = false := beq_eq_false_iff_ne.2 (by omega)
        have HV := Lib.hid (sk_of (R := R) (i := i) (by have := HL.out; omega) ((hS3 hbl (by omega)).symm.trans HE.out.symm))
        clear hbl h45 hS1 hS2 hS3 hE0 HBh HA1
        go_wp2_with fail
        refine HA0.out.mono ?_
        rintro e w' ⟨rfl, rfl⟩
        go_wp2_with fail
        refine (HBk.out _).mono ?_
        rintro e w' ⟨rfl, rfl⟩
        go_wp2_with fail
        refine HA0.out.mono ?_
        rintro e w' ⟨rfl, rfl⟩
        go_wp2
        go_ret
        exact ⟨by rw [← HV.out]; rfl, rfl⟩
    · rw [hbl] at HBk
      have hkl : k < len := Nat.lt_of_not_le fun hle => by rw [hE0 hle] at hbl; revert hbl; decide
      have HV := Lib.hid (hS1 hbl)
      clear hbl hS1 hS2 hS3 hE0 HBh HA1
      go_wp2_with fail
      refine HA0.out.mono ?_
      rintro e w' ⟨rfl, rfl⟩
      go_wp2_with fail
      refine (HBk.out _).mono ?_
      rintro e w' ⟨rfl, rfl⟩
      go_wp2
      go_round
      case rel => exact ⟨k + 1, by omega, by go_num, by rw [HE.out, HV.out]⟩
      case measure => simp [intOf]; omega
end Go.Proofs.YtndagbmcdpafjaaDoor
