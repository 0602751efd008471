/-
  The walk of LexNumbers. Conditions: the listed errors lie as they are laid.
-/
import Derived.Test.YteceipngknhcfaaDoorQWkLn
namespace Go.Proofs.YteceipngknhcfaaDoor
open Go.Shelf Go.RowKit Go.Lib

theorem dval_snoc (l : List UInt8) (c : UInt8) : dval (l ++ [c]) = dval l * 10 + (c.toNat - 48) := by simp [dval]
theorem dval_dg : ∀ (m n : Nat), n ≤ m → dval (encs (dgR n)) = n
  | m, n, h => by
    by_cases h0 : n < 10
    · rw [dgR_small h0, encs_cons, encB_lt (by omega), encs_nil]
      simp [dval]
      omega
    · cases m with
      | zero => omega
      | succ m =>
        have := dval_dg m (n / 10) (by omega)
        rw [dgR_more h0, encs_append, encs_cons, encB_lt (by omega), encs_nil, List.append_nil, dval_snoc, this, ofNat_toNat (by omega)]
        omega
theorem dgR_ne (n : Nat) : dgR n ≠ [] := by
  by_cases h0 : n < 10
  · rw [dgR_small h0]; simp
  · rw [dgR_more h0]; simp
theorem dgR_head : ∀ (m n : Nat), n ≤ m → 1 ≤ n → (dgR n).head? ≠ some 48
  | m, n, h, h1 => by
    by_cases h0 : n < 10
    · rw [dgR_small h0]; simp; omega
    · cases m with
      | zero => omega
      | succ m =>
        have := dgR_head m (n / 10) (by omega) (by omega)
        rw [dgR_more h0]
        cases hd : dgR (n / 10) with
        | nil => exact absurd hd (dgR_ne _)
        | cons a t => rw [hd] at this; simpa using this
theorem encs_head {a : Nat} {t : List Nat} (h : a < 128) : (encs (a :: t)).head? = some (UInt8.ofNat a) := by rw [encs_cons, encB_lt h]; rfl
theorem numB_dg {n : Nat} (h : n ≤ 9223372036854775807) : numB (encs (dgR n)) = some n := by
  have hv := dval_dg n n (Nat.le_refl _)
  unfold numB
  rw [hv, if_neg]
  rintro (⟨h1, h2⟩ | h1)
  · have hd := dgR_dig n n (Nat.le_refl _)
    by_cases h0 : n = 0
    · subst h0
      rw [dgR_small (by decide)] at h1
      revert h1
      decide
    · have hh := dgR_head n n (Nat.le_refl _) (by omega)
      cases he : dgR n with
      | nil => exact dgR_ne n he
      | cons a t =>
        rw [he] at h2 hh hd
        have ha := (hd a (by simp)).2
        rw [encs_head ha] at h2
        have e : UInt8.ofNat a = 48 := by simpa using h2
        have e2 := congrArg UInt8.toNat e
        rw [ofNat_toNat (by omega)] at e2
        exact hh (by rw [List.head?_cons, e2]; rfl)
  · omega
theorem rd_numbad {R : List Nat} {i a : Nat} {t r : List Nat} (h : skp (R.drop i) = (a :: t) ++ r) (hw : ∀ x ∈ a :: t, isDig x = true) (hr : ∀ x, r.head? = some x → isDig x = false) (hv : numB (encs (a :: t)) = none ∨ ∃ x, r.head? = some x ∧ inNm x = true) :
    rd R i = .bad 6 (R.length - ((a :: t) ++ r).length) := by
  obtain ⟨h1, h2, h3⟩ := sk_at h
  have ha := at0_drop h1
  have hb := bh_word h1 hw hr
  have hc := cut_word h1
  have hd := drop_word h1
  obtain ⟨k1, k2⟩ := dig_pos (hw a (by simp))
  unfold rd rdAt numAt
  rw [ha, if_neg k1, if_neg (by simp [k2]), if_pos (hw a (by simp)), hb, hc]
  rcases hv with hv | ⟨x, hx, hin⟩
  · rw [hv, h2]
  · have hat : at0 R (sk R i + (a :: t).length) = x := by
      cases r with
      | nil => cases hx
      | cons b u => rw [at0_drop hd]; simpa using hx
    rw [hat]
    cases numB (encs (a :: t)) with
    | none => rw [h2]
    | some v => simp [hin, h2]
/-- A blank, digits, what follows. -/
def nbR (w r : List Nat) : List Nat := 32 :: (w ++ r)
theorem nb_skp {a : Nat} {t r : List Nat} (h : isDig a = true) : skp ((nbR (a :: t) r).drop 0) = (a :: t) ++ r := by
  unfold nbR
  rw [List.drop_zero, skp_bla _ (by decide)]
  exact stop_of (dig_bla h).1 (.inl (dig_bla h).2)
theorem dig_good {r : Nat} (h : isDig r = true) : goodR r = true := by
  unfold isDig digB at h
  have := of_decide_eq_true h
  have key : ∀ r, r < 58 → 48 ≤ r → goodR r = true := by decide
  exact key r (by omega) (by omega)
theorem nb_ok (S : ByteArray) (n : Nat) (hn : n ≤ 9223372036854775807) (hS : S.data.toList = encs (nbR (dgR n) [])) : LexIs S [⟨3, 1, encs (dgR n), n⟩, ⟨0, (dgR n).length + 1, [], 0⟩] none := by
  have hd := dgR_dig n n (Nat.le_refl _)
  have hv := numB_dg hn
  refine lexIs_encs hS (fun r hr => ?_) fun hok => ?_
  · unfold nbR at hr
    rw [List.append_nil] at hr
    rcases List.mem_cons.1 hr with rfl | hr
    · decide
    · exact dig_good (hd r hr).1
  · cases he : dgR n with
    | nil => exact absurd he (dgR_ne n)
    | cons a t =>
      rw [he] at hok hd hv
      obtain ⟨k1, k2⟩ := rd_num (nb_skp (r := []) (hd a (by simp)).1) (fun x hx => (hd x hx).1) (by simp) hv
      rw [lx_tok hok (Nat.zero_le _) k1 (by simp), lx_last (by rw [k2]; exact skp_nil)]
      simp [nbR]
theorem nb_bad (S : ByteArray) (w r : List Nat) (hw : ∀ x ∈ w, isDig x = true) (hw0 : w ≠ []) (hr : ∀ x, r.head? = some x → isDig x = false) (hg : ∀ x ∈ r, goodR x = true) (hv : numB (encs w) = none ∨ ∃ x, r.head? = some x ∧ inNm x = true) (hS : S.data.toList = encs (nbR w r)) : LexIs S [] (some (6, 1)) := by
  refine lexIs_encs hS (fun x hx => ?_) fun hok => ?_
  · unfold nbR at hx
    rcases List.mem_cons.1 hx with rfl | hx
    · decide
    · rcases List.mem_append.1 hx with hx | hx
      · exact dig_good (hw x hx)
      · exact hg x hx
  · cases w with
    | nil => exact absurd rfl hw0
    | cons a t =>
      have k1 := rd_numbad (nb_skp (hw a (by simp))) hw hr hv
      rw [lx_bad k1]
      have : (nbR (a :: t) r).length - ((a :: t) ++ r).length = 1 := by simp [nbR]
      rw [this]

set_option maxRecDepth 100000 in
set_option maxHeartbeats 4000000 in
theorem lexNumbers_raw (z what : Int) (w : World) (hz : (Lit.int .i64 z).wf = true) (ads : List Addr) (er : Nat → Addr) (hSe : Sents w ads) (hE : Lerr w er) (hae : ∀ i, i < 21 → ads[i]? = some (er i)) :
    Calls Tryd.prog 7 #[.int .i64 z, .int .i64 what] w (RetYes w) := by
  have HF := Lib.hid (lfirst_any er w hE)
  obtain ⟨n, hn, hnl⟩ : ∃ n : Nat, (n : Int) = (if z < 0 then -(z + 1) else z) ∧ n ≤ 9223372036854775807 := by
    have hb : -9223372036854775808 ≤ z ∧ z ≤ 9223372036854775807 := by simpa [Lit.wf, IntKind.min, IntKind.max, IntKind.bits, IntKind.signed] using hz
    refine ⟨(if z < 0 then -(z + 1) else z).toNat, ?_, ?_⟩ <;> split <;> omega
  have hm1 := Int.emod_nonneg what (show (4 : Int) ≠ 0 by decide)
  have hm2 := Int.emod_lt_of_pos what (show (0 : Int) < 4 by decide)
  obtain ⟨m, hm⟩ : ∃ m : Nat, what % 4 = (m : Int) := ⟨(what % 4).toNat, by omega⟩
  have HN := Lib.hid (fun W => number_any what 4 W (by decide) (by decide))
  rw [hm] at HN hm2
  have HD := Lib.hid (fun W => digits_any n n W (Nat.le_refl _) hnl)
  -- the ways
  have hdl := dig_size hnl
  have hd := dgR_dig n n (Nat.le_refl _)
  have HC0 : Hid (∀ S : ByteArray, S.data.toList = encs (nbR (dgR n) []) → LexIs S [⟨3, 1, encs (dgR n), n⟩, ⟨0, (dgR n).length + 1, [], 0⟩] none) := Lib.hid fun S hS => nb_ok S n hnl hS
  have HC1 : Hid (∀ S : ByteArray, S.data.toList = encs (nbR (48 :: dgR n) []) → LexIs S [] (some (6, 1))) := Lib.hid fun S hS => nb_bad S (48 :: dgR n) [] (fun x hx => by
    rcases List.mem_cons.1 hx with rfl | hx
    · decide
    · exact (hd x hx).1) (by simp) (by simp) (by simp) (.inl (by
      have h1 : 1 ≤ (encs (dgR n)).length := by
        cases he : dgR n with
        | nil => exact absurd he (dgR_ne n)
        | cons a t => rw [encs_cons, List.length_append]; have := encB_len a; omega
      have h2 : 1 < (encs (48 :: dgR n)).length := by
        rw [encs_cons, List.length_append]
        have h48 : (encB 48).length = 1 := rfl
        omega
      unfold numB
      rw [if_pos (.inl ⟨h2, by rw [encs_cons]; rfl⟩)])) hS
  have HC2 : Hid (∀ S : ByteArray, S.data.toList = encs (nbR (dgR n) [120]) → LexIs S [] (some (6, 1))) := Lib.hid fun S hS => nb_bad S (dgR n) [120] (fun x hx => (hd x hx).1) (dgR_ne n) (by intro x hx; simp at hx; subst hx; decide) (by intro x hx; simp at hx; subst hx; decide) (.inr ⟨120, rfl, by decide⟩) hS
  have HC3 : Hid (∀ S : ByteArray, S.data.toList = encs (nbR [57, 50, 50, 51, 51, 55, 50, 48, 51, 54, 56, 53, 52, 55, 55, 53, 56, 48, 56] []) → LexIs S [] (some (6, 1))) := Lib.hid fun S hS => nb_bad S _ [] (by decide) (by simp) (by simp) (by simp) (.inl (by decide)) hS
  have HSe := Lib.hid hSe
  have HE := Lib.hid hE
  have ha6 := hae 6 (by decide)
  have HA6 := Lib.hid ha6
  obtain ⟨D, hD⟩ : ∃ D : ByteArray, D = ⟨(encs (dgR n)).toArray⟩ := ⟨_, rfl⟩
  have hDz : D.size ≤ 19 := by rw [hD]; exact hdl
  have HDl : Hid (D.data.toList = encs (dgR n)) := Lib.hid (by rw [hD])
  rw [← hD] at HD
  have hnI : (n : Int) ≤ 9223372036854775807 := by omega
  clear hd hdl hSe hE hae ha6 hD hm hm1 hz
  by_cases hneg : z < 0
  · rw [if_pos hneg] at hn
    have hz0 : z = -(n : Int) - 1 := by omega
    subst hz0
    have hnn : -(-(n : Int) - 1 + 1) = (n : Int) := by omega
    clear hneg hn hnl
    rcases (by omega : m = 0 ∨ m = 1 ∨ m = 2 ∨ m = 3) with rfl | rfl | rfl | rfl
    · clear hm2
      go_enter Tryd.func7, Tryd.ntmps7
      go_wp2_with fail
      refine HF.out.mono ?_
      rintro e w1 ⟨rfl, hB1⟩
      have HB1 := Lib.hid hB1
      clear hB1
      go_wp2_with fail
      refine (HD.out _).mono ?_
      rintro e w2 ⟨rfl, hB2⟩
      have HB2 := Lib.hid (HB1.out.trans (hB2.mono HB1.out.size))
      clear hB2
      go_wp2_with fail
      refine (HN.out _).mono ?_
      rintro e w3 ⟨rfl, rfl⟩
      have hlx := HC0.out (⟨#[32]⟩ ++ D : ByteArray) (by rw [ByteArray.data_append, Array.toList_append, HDl.out]; simp [nbR, encs_cons, encB])
      have hall := all_any (⟨#[32]⟩ ++ D : ByteArray) (by rw [ByteArray.size_append]; show 1 + _ ≤ _; omega) er _ _ hlx (by simp) w2 (HE.out.below HB2.out)
      have HAl := Lib.hid hall
      clear hlx hall HC0 HC1 HC2 HC3
      go_wp2_with fail
      refine HAl.out.mono ?_
      rintro e w4 ⟨hB4, v, rfl, hO⟩
      obtain ⟨g, c, rfl, -, -, hlc, hcell⟩ := hO.at_ (by simp)
      have h0 : w4.cell? ⟨g, 0, none⟩ = some (.int .i64 3) := hcell 0 (by simp) 0 _ rfl
      have h1 : w4.cell? ⟨g, 1, none⟩ = some (.int .i64 1) := hcell 0 (by simp) 1 _ rfl
      have h3 : w4.cell? ⟨g, 3, none⟩ = some (.int .i64 (n : Int)) := hcell 0 (by simp) 3 _ rfl
      have HB4 := Lib.hid (HB2.out.trans (hB4.mono HB2.out.size))
      clear hcell hO hB4
      simp only [List.length_cons, List.length_nil, Nat.zero_add, Nat.reduceAdd] at hlc ⊢
      go_wp2_with fail
      refine (HN.out _).mono ?_
      rintro e w5 ⟨rfl, rfl⟩
      go_wp2
      go_ret
      exact ⟨rfl, HB4.out⟩
    · clear hm2
      go_enter Tryd.func7, Tryd.ntmps7
      go_wp2_with fail
      refine HF.out.mono ?_
      rintro e w1 ⟨rfl, hB1⟩
      have HB1 := Lib.hid hB1
      clear hB1
      go_wp2_with fail
      refine (HD.out _).mono ?_
      rintro e w2 ⟨rfl, hB2⟩
      have HB2 := Lib.hid (HB1.out.trans (hB2.mono HB1.out.size))
      clear hB2
      go_wp2_with fail
      refine (HN.out _).mono ?_
      rintro e w3 ⟨rfl, rfl⟩
      have hlx := HC1.out (⟨#[32]⟩ ++ (⟨#[48]⟩ ++ D) : ByteArray) (by rw [ByteArray.data_append, Array.toList_append, ByteArray.data_append, Array.toList_append, HDl.out]; simp [nbR, encs_cons, encB])
      have hall := all_any (⟨#[32]⟩ ++ (⟨#[48]⟩ ++ D) : ByteArray) (by rw [ByteArray.size_append, ByteArray.size_append]; show 1 + (1 + _) ≤ _; omega) er _ _ hlx (by simp) w2 (HE.out.below HB2.out)
      have HAl := Lib.hid hall
      clear hlx hall HC0 HC1 HC2 HC3
      go_wp2_with fail
      refine HAl.out.mono ?_
      rintro e w4 ⟨hB4, b, rfl, hbk⟩
      have HB4 := Lib.hid (HB2.out.trans (hB4.mono HB2.out.size))
      have HBk := Lib.hid hbk
      clear hbk hB4
      go_wp2_with fail
      refine (HN.out _).mono ?_
      rintro e w5 ⟨rfl, rfl⟩
      go_wp2_with fail
      refine (placed_any 107 1 _ (by decide)).mono ?_
      rintro e w6 ⟨rfl, hB6⟩
      have hS6 := (HSe.out.later HB4.out).later hB6
      have hb6 := HBk.out.below hB6 HBk.out.lt
      have HSm := Lib.hid (same_fault w6 (.iface 77 (.pointer (some ⟨b, 0, none⟩))) 107 1 true (fun W hW => fault_placed W ads 6 b (er 6) 1 (hS6.later hW) HA6.out (hb6.below hW hb6.lt)))
      have HB6 := Lib.hid (HB4.out.trans (hB6.mono HB4.out.size))
      clear hS6 hb6 hB6
      go_wp2_with fail
      refine HSm.out.mono ?_
      rintro e w7 ⟨rfl, hB7⟩
      go_wp2
      go_ret
      exact ⟨rfl, HB6.out.trans (hB7.mono HB6.out.size)⟩
    · clear hm2
      go_enter Tryd.func7, Tryd.ntmps7
      go_wp2_with fail
      refine HF.out.mono ?_
      rintro e w1 ⟨rfl, hB1⟩
      have HB1 := Lib.hid hB1
      clear hB1
      go_wp2_with fail
      refine (HD.out _).mono ?_
      rintro e w2 ⟨rfl, hB2⟩
      have HB2 := Lib.hid (HB1.out.trans (hB2.mono HB1.out.size))
      clear hB2
      go_wp2_with fail
      refine (HN.out _).mono ?_
      rintro e w3 ⟨rfl, rfl⟩
      have hlx := HC2.out (⟨#[32]⟩ ++ (D ++ ⟨#[120]⟩) : ByteArray) (by rw [ByteArray.data_append, Array.toList_append, ByteArray.data_append, Array.toList_append, HDl.out]; simp [nbR, encs_cons, encs_append, encs_nil, encB])
      have hall := all_any (⟨#[32]⟩ ++ (D ++ ⟨#[120]⟩) : ByteArray) (by rw [ByteArray.size_append, ByteArray.size_append]; show 1 + (_ + 1) ≤ _; omega) er _ _ hlx (by simp) w2 (HE.out.below HB2.out)
      have HAl := Lib.hid hall
      clear hlx hall HC0 HC1 HC2 HC3
      go_wp2_with fail
      refine HAl.out.mono ?_
      rintro e w4 ⟨hB4, b, rfl, hbk⟩
      have HB4 := Lib.hid (HB2.out.trans (hB4.mono HB2.out.size))
      have HBk := Lib.hid hbk
      clear hbk hB4
      go_wp2_with fail
      refine (HN.out _).mono ?_
      rintro e w5 ⟨rfl, rfl⟩
      go_wp2_with fail
      refine (placed_any 107 1 _ (by decide)).mono ?_
      rintro e w6 ⟨rfl, hB6⟩
      have hS6 := (HSe.out.later HB4.out).later hB6
      have hb6 := HBk.out.below hB6 HBk.out.lt
      have HSm := Lib.hid (same_fault w6 (.iface 77 (.pointer (some ⟨b, 0, none⟩))) 107 1 true (fun W hW => fault_placed W ads 6 b (er 6) 1 (hS6.later hW) HA6.out (hb6.below hW hb6.lt)))
      have HB6 := Lib.hid (HB4.out.trans (hB6.mono HB4.out.size))
      clear hS6 hb6 hB6
      go_wp2_with fail
      refine HSm.out.mono ?_
      rintro e w7 ⟨rfl, hB7⟩
      go_wp2
      go_ret
      exact ⟨rfl, HB6.out.trans (hB7.mono HB6.out.size)⟩
    · clear hm2
      go_enter Tryd.func7, Tryd.ntmps7
      go_wp2_with fail
      refine HF.out.mono ?_
      rintro e w1 ⟨rfl, hB1⟩
      have HB1 := Lib.hid hB1
      clear hB1
      go_wp2_with fail
      refine (HD.out _).mono ?_
      rintro e w2 ⟨rfl, hB2⟩
      have HB2 := Lib.hid (HB1.out.trans (hB2.mono HB1.out.size))
      clear hB2
      go_wp2_with fail
      refine (HN.out _).mono ?_
      rintro e w3 ⟨rfl, rfl⟩
      have hlx := HC3.out (⟨#[32, 57, 50, 50, 51, 51, 55, 50, 48, 51, 54, 56, 53, 52, 55, 55, 53, 56, 48, 56]⟩ : ByteArray) (by decide)
      have hall := all_any (⟨#[32, 57, 50, 50, 51, 51, 55, 50, 48, 51, 54, 56, 53, 52, 55, 55, 53, 56, 48, 56]⟩ : ByteArray) (by decide) er _ _ hlx (by simp) w2 (HE.out.below HB2.out)
      have HAl := Lib.hid hall
      clear hlx hall HC0 HC1 HC2 HC3
      go_wp2_with fail
      refine HAl.out.mono ?_
      rintro e w4 ⟨hB4, b, rfl, hbk⟩
      have HB4 := Lib.hid (HB2.out.trans (hB4.mono HB2.out.size))
      have HBk := Lib.hid hbk
      clear hbk hB4
      go_wp2_with fail
      refine (HN.out _).mono ?_
      rintro e w5 ⟨rfl, rfl⟩
      go_wp2_with fail
      refine (placed_any 107 1 _ (by decide)).mono ?_
      rintro e w6 ⟨rfl, hB6⟩
      have hS6 := (HSe.out.later HB4.out).later hB6
      have hb6 := HBk.out.below hB6 HBk.out.lt
      have HSm := Lib.hid (same_fault w6 (.iface 77 (.pointer (some ⟨b, 0, none⟩))) 107 1 true (fun W hW => fault_placed W ads 6 b (er 6) 1 (hS6.later hW) HA6.out (hb6.below hW hb6.lt)))
      have HB6 := Lib.hid (HB4.out.trans (hB6.mono HB4.out.size))
      clear hS6 hb6 hB6
      go_wp2_with fail
      refine HSm.out.mono ?_
      rintro e w7 ⟨rfl, hB7⟩
      go_wp2
      go_ret
      exact ⟨rfl, HB6.out.trans (hB7.mono HB6.out.size)⟩
  · rw [if_neg hneg] at hn
    subst hn
    have hnn : ¬ ((n : Int) < 0) := hneg
    clear hneg hnl
    rcases (by omega : m = 0 ∨ m = 1 ∨ m = 2 ∨ m = 3) with rfl | rfl | rfl | rfl
    · clear hm2
      go_enter Tryd.func7, Tryd.ntmps7
      go_wp2_with fail
      refine HF.out.mono ?_
      rintro e w1 ⟨rfl, hB1⟩
      have HB1 := Lib.hid hB1
      clear hB1
      go_wp2_with fail
      refine (HD.out _).mono ?_
      rintro e w2 ⟨rfl, hB2⟩
      have HB2 := Lib.hid (HB1.out.trans (hB2.mono HB1.out.size))
      clear hB2
      go_wp2_with fail
      refine (HN.out _).mono ?_
      rintro e w3 ⟨rfl, rfl⟩
      have hlx := HC0.out (⟨#[32]⟩ ++ D : ByteArray) (by rw [ByteArray.data_append, Array.toList_append, HDl.out]; simp [nbR, encs_cons, encB])
      have hall := all_any (⟨#[32]⟩ ++ D : ByteArray) (by rw [ByteArray.size_append]; show 1 + _ ≤ _; omega) er _ _ hlx (by simp) w2 (HE.out.below HB2.out)
      have HAl := Lib.hid hall
      clear hlx hall HC0 HC1 HC2 HC3
      go_wp2_with fail
      refine HAl.out.mono ?_
      rintro e w4 ⟨hB4, v, rfl, hO⟩
      obtain ⟨g, c, rfl, -, -, hlc, hcell⟩ := hO.at_ (by simp)
      have h0 : w4.cell? ⟨g, 0, none⟩ = some (.int .i64 3) := hcell 0 (by simp) 0 _ rfl
      have h1 : w4.cell? ⟨g, 1, none⟩ = some (.int .i64 1) := hcell 0 (by simp) 1 _ rfl
      have h3 : w4.cell? ⟨g, 3, none⟩ = some (.int .i64 (n : Int)) := hcell 0 (by simp) 3 _ rfl
      have HB4 := Lib.hid (HB2.out.trans (hB4.mono HB2.out.size))
      clear hcell hO hB4
      simp only [List.length_cons, List.length_nil, Nat.zero_add, Nat.reduceAdd] at hlc ⊢
      go_wp2_with fail
      refine (HN.out _).mono ?_
      rintro e w5 ⟨rfl, rfl⟩
      go_wp2
      go_ret
      exact ⟨rfl, HB4.out⟩
    · clear hm2
      go_enter Tryd.func7, Tryd.ntmps7
      go_wp2_with fail
      refine HF.out.mono ?_
      rintro e w1 ⟨rfl, hB1⟩
      have HB1 := Lib.hid hB1
      clear hB1
      go_wp2_with fail
      refine (HD.out _).mono ?_
      rintro e w2 ⟨rfl, hB2⟩
      have HB2 := Lib.hid (HB1.out.trans (hB2.mono HB1.out.size))
      clear hB2
      go_wp2_with fail
      refine (HN.out _).mono ?_
      rintro e w3 ⟨rfl, rfl⟩
      have hlx := HC1.out (⟨#[32]⟩ ++ (⟨#[48]⟩ ++ D) : ByteArray) (by rw [ByteArray.data_append, Array.toList_append, ByteArray.data_append, Array.toList_append, HDl.out]; simp [nbR, encs_cons, encB])
      have hall := all_any (⟨#[32]⟩ ++ (⟨#[48]⟩ ++ D) : ByteArray) (by rw [ByteArray.size_append, ByteArray.size_append]; show 1 + (1 + _) ≤ _; omega) er _ _ hlx (by simp) w2 (HE.out.below HB2.out)
      have HAl := Lib.hid hall
      clear hlx hall HC0 HC1 HC2 HC3
      go_wp2_with fail
      refine HAl.out.mono ?_
      rintro e w4 ⟨hB4, b, rfl, hbk⟩
      have HB4 := Lib.hid (HB2.out.trans (hB4.mono HB2.out.size))
      have HBk := Lib.hid hbk
      clear hbk hB4
      go_wp2_with fail
      refine (HN.out _).mono ?_
      rintro e w5 ⟨rfl, rfl⟩
      go_wp2_with fail
      refine (placed_any 107 1 _ (by decide)).mono ?_
      rintro e w6 ⟨rfl, hB6⟩
      have hS6 := (HSe.out.later HB4.out).later hB6
      have hb6 := HBk.out.below hB6 HBk.out.lt
      have HSm := Lib.hid (same_fault w6 (.iface 77 (.pointer (some ⟨b, 0, none⟩))) 107 1 true (fun W hW => fault_placed W ads 6 b (er 6) 1 (hS6.later hW) HA6.out (hb6.below hW hb6.lt)))
      have HB6 := Lib.hid (HB4.out.trans (hB6.mono HB4.out.size))
      clear hS6 hb6 hB6
      go_wp2_with fail
      refine HSm.out.mono ?_
      rintro e w7 ⟨rfl, hB7⟩
      go_wp2
      go_ret
      exact ⟨rfl, HB6.out.trans (hB7.mono HB6.out.size)⟩
    · clear hm2
      go_enter Tryd.func7, Tryd.ntmps7
      go_wp2_with fail
      refine HF.out.mono ?_
      rintro e w1 ⟨rfl, hB1⟩
      have HB1 := Lib.hid hB1
      clear hB1
      go_wp2_with fail
      refine (HD.out _).mono ?_
      rintro e w2 ⟨rfl, hB2⟩
      have HB2 := Lib.hid (HB1.out.trans (hB2.mono HB1.out.size))
      clear hB2
      go_wp2_with fail
      refine (HN.out _).mono ?_
      rintro e w3 ⟨rfl, rfl⟩
      have hlx := HC2.out (⟨#[32]⟩ ++ (D ++ ⟨#[120]⟩) : ByteArray) (by rw [ByteArray.data_append, Array.toList_append, ByteArray.data_append, Array.toList_append, HDl.out]; simp [nbR, encs_cons, encs_append, encs_nil, encB])
      have hall := all_any (⟨#[32]⟩ ++ (D ++ ⟨#[120]⟩) : ByteArray) (by rw [ByteArray.size_append, ByteArray.size_append]; show 1 + (_ + 1) ≤ _; omega) er _ _ hlx (by simp) w2 (HE.out.below HB2.out)
      have HAl := Lib.hid hall
      clear hlx hall HC0 HC1 HC2 HC3
      go_wp2_with fail
      refine HAl.out.mono ?_
      rintro e w4 ⟨hB4, b, rfl, hbk⟩
      have HB4 := Lib.hid (HB2.out.trans (hB4.mono HB2.out.size))
      have HBk := Lib.hid hbk
      clear hbk hB4
      go_wp2_with fail
      refine (HN.out _).mono ?_
      rintro e w5 ⟨rfl, rfl⟩
      go_wp2_with fail
      refine (placed_any 107 1 _ (by decide)).mono ?_
      rintro e w6 ⟨rfl, hB6⟩
      have hS6 := (HSe.out.later HB4.out).later hB6
      have hb6 := HBk.out.below hB6 HBk.out.lt
      have HSm := Lib.hid (same_fault w6 (.iface 77 (.pointer (some ⟨b, 0, none⟩))) 107 1 true (fun W hW => fault_placed W ads 6 b (er 6) 1 (hS6.later hW) HA6.out (hb6.below hW hb6.lt)))
      have HB6 := Lib.hid (HB4.out.trans (hB6.mono HB4.out.size))
      clear hS6 hb6 hB6
      go_wp2_with fail
      refine HSm.out.mono ?_
      rintro e w7 ⟨rfl, hB7⟩
      go_wp2
      go_ret
      exact ⟨rfl, HB6.out.trans (hB7.mono HB6.out.size)⟩
    · clear hm2
      go_enter Tryd.func7, Tryd.ntmps7
      go_wp2_with fail
      refine HF.out.mono ?_
      rintro e w1 ⟨rfl, hB1⟩
      have HB1 := Lib.hid hB1
      clear hB1
      go_wp2_with fail
      refine (HD.out _).mono ?_
      rintro e w2 ⟨rfl, hB2⟩
      have HB2 := Lib.hid (HB1.out.trans (hB2.mono HB1.out.size))
      clear hB2
      go_wp2_with fail
      refine (HN.out _).mono ?_
      rintro e w3 ⟨rfl, rfl⟩
      have hlx := HC3.out (⟨#[32, 57, 50, 50, 51, 51, 55, 50, 48, 51, 54, 56, 53, 52, 55, 55, 53, 56, 48, 56]⟩ : ByteArray) (by decide)
      have hall := all_any (⟨#[32, 57, 50, 50, 51, 51, 55, 50, 48, 51, 54, 56, 53, 52, 55, 55, 53, 56, 48, 56]⟩ : ByteArray) (by decide) er _ _ hlx (by simp) w2 (HE.out.below HB2.out)
      have HAl := Lib.hid hall
      clear hlx hall HC0 HC1 HC2 HC3
      go_wp2_with fail
      refine HAl.out.mono ?_
      rintro e w4 ⟨hB4, b, rfl, hbk⟩
      have HB4 := Lib.hid (HB2.out.trans (hB4.mono HB2.out.size))
      have HBk := Lib.hid hbk
      clear hbk hB4
      go_wp2_with fail
      refine (HN.out _).mono ?_
      rintro e w5 ⟨rfl, rfl⟩
      go_wp2_with fail
      refine (placed_any 107 1 _ (by decide)).mono ?_
      rintro e w6 ⟨rfl, hB6⟩
      have hS6 := (HSe.out.later HB4.out).later hB6
      have hb6 := HBk.out.below hB6 HBk.out.lt
      have HSm := Lib.hid (same_fault w6 (.iface 77 (.pointer (some ⟨b, 0, none⟩))) 107 1 true (fun W hW => fault_placed W ads 6 b (er 6) 1 (hS6.later hW) HA6.out (hb6.below hW hb6.lt)))
      have HB6 := Lib.hid (HB4.out.trans (hB6.mono HB4.out.size))
      clear hS6 hb6 hB6
      go_wp2_with fail
      refine HSm.out.mono ?_
      rintro e w7 ⟨rfl, hB7⟩
      go_wp2
      go_ret
      exact ⟨rfl, HB6.out.trans (hB7.mono HB6.out.size)⟩
theorem lexNumbers_walk (z what : Int) (w : World) (hz : (Lit.int .i64 z).wf = true) (_ : (Lit.int .i64 what).wf = true) (hL : laidMetH Tryd.prog laid26 w) :
    Calls Tryd.prog 7 #[.int .i64 z, .int .i64 what] w (RetYes w) := by
  obtain ⟨ads, er, h1, h2, h3, _⟩ := of26 hL
  exact lexNumbers_raw z what w hz ads er h1 h2 h3
end Go.Proofs.YteceipngknhcfaaDoor
