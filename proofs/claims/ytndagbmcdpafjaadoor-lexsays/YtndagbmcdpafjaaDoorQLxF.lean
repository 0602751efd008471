/-
  The walks of the lexer's sign and read. Conditions: each theorem's own premises.
-/
import Derived.Test.YtndagbmcdpafjaaDoorQLxE
namespace Go.Proofs.YtndagbmcdpafjaaDoor
open Go.Shelf Go.RowKit Go.Lib

theorem encB_len (r : Nat) : 1 ≤ (encB r).length := by
  unfold encB
  repeat' split
  all_goals simp
theorem encB_one {r : Nat} {u : UInt8} (h : encB r = [u]) : r = u.toNat := by
  unfold encB at h
  split at h
  · rename_i g
    simp at h
    rw [← h, ofNat_toNat (by omega)]
  · split at h
    · simp at h
    · split at h <;> simp at h
theorem encB_lt {r : Nat} (h : r < 128) : encB r = [UInt8.ofNat r] := by unfold encB; rw [if_pos h]
theorem sign_one (a : Nat) : encs [a] ∈ sgL ↔ (a = 40 ∨ a = 41 ∨ a = 44 ∨ a = 58 ∨ a = 59 ∨ a = 61 ∨ a = 60 ∨ a = 62 ∨ a = 43 ∨ a = 45 ∨ a = 42 ∨ a = 47) := by
  have e : encs [a] = encB a := by simp [encs]
  rw [e]
  constructor
  · intro h
    by_cases h1 : a < 128
    · rw [encB_lt h1] at h
      have ha : (UInt8.ofNat a).toNat = a := ofNat_toNat (by omega)
      generalize UInt8.ofNat a = u at h ha
      simp only [sgL, List.mem_cons, List.cons.injEq, and_true, List.not_mem_nil, or_false, reduceCtorEq, and_false, false_or] at h
      rcases h with rfl | rfl | rfl | rfl | rfl | rfl | rfl | rfl | rfl | rfl | rfl | rfl <;> (simp at ha; omega)
    · exfalso
      unfold encB at h
      rw [if_neg h1] at h
      split at h
      · rename_i g
        have hu : (UInt8.ofNat (192 + a / 64)).toNat = 192 + a / 64 := ofNat_toNat (by omega)
        generalize UInt8.ofNat (192 + a / 64) = u at h hu
        simp [sgL] at h
        rcases h with ⟨rfl, _⟩ | ⟨rfl, _⟩ | ⟨rfl, _⟩ | ⟨rfl, _⟩ <;> (simp at hu; omega)
      · split at h <;> simp [sgL] at h
  · intro h
    rcases h with rfl | rfl | rfl | rfl | rfl | rfl | rfl | rfl | rfl | rfl | rfl | rfl <;> decide
theorem sign_two (a b : Nat) : encs [a, b] ∈ sgL ↔ ((a = 60 ∧ (b = 62 ∨ b = 61)) ∨ (a = 62 ∧ b = 61) ∨ (a = 45 ∧ b = 62)) := by
  have e : encs [a, b] = encB a ++ encB b := by simp [encs]
  rw [e]
  constructor
  · intro h
    have k1 := encB_len a
    have k2 := encB_len b
    have hl : (encB a ++ encB b).length ≤ 2 := by
      have : ∀ l ∈ sgL, l.length ≤ 2 := by decide
      exact this _ h
    rw [List.length_append] at hl
    obtain ⟨u, hu⟩ : ∃ u, encB a = [u] := List.length_eq_one_iff.1 (by omega)
    obtain ⟨v, hv⟩ : ∃ v, encB b = [v] := List.length_eq_one_iff.1 (by omega)
    have ha := encB_one hu
    have hb := encB_one hv
    rw [hu, hv] at h
    simp [sgL] at h
    subst ha hb
    rcases h with ⟨rfl, rfl⟩ | ⟨rfl, rfl⟩ | ⟨rfl, rfl⟩ | ⟨rfl, rfl⟩ <;> simp
  · intro h
    rcases h with ⟨rfl, rfl | rfl⟩ | ⟨rfl, rfl⟩ | ⟨rfl, rfl⟩ <;> decide
theorem cut_one {R : List Nat} {p : Nat} (h : p < R.length) : cutE R p (p + 1) = encs [at0 R p] := by
  unfold cutE
  rw [drop_at0 h, Nat.add_sub_cancel_left]
  rfl
theorem cut_two {R : List Nat} {p : Nat} (h : p + 1 < R.length) : cutE R p (p + 2) = encs [at0 R p, at0 R (p + 1)] := by
  unfold cutE
  rw [drop_at0 (show p < R.length by omega), drop_at0 h, Nat.add_sub_cancel_left]
  rfl
theorem sgn_is2 (a b : Nat) : sgn a b = 2 ↔ encs [a, b] ∈ sgL := by
  rw [sign_two]
  unfold sgn
  constructor
  · intro h
    split at h
    · assumption
    · split at h <;> omega
  · intro h
    rw [if_pos h]
theorem sgn_is1 {a b : Nat} (h : ¬ sgn a b = 2) : sgn a b = 1 ↔ encs [a] ∈ sgL := by
  rw [sign_one]
  unfold sgn at h ⊢
  split at h
  · exact absurd rfl h
  · rename_i g
    rw [if_neg g]
    constructor
    · intro h
      split at h
      · assumption
      · omega
    · intro h
      rw [if_pos h]

set_option maxRecDepth 100000 in
set_option maxHeartbeats 4000000 in
theorem lsign_any (g c : Nat) (R : List Nat) (len p : Nat) (er : Nat → Addr) (w : World) (hl : len = R.length) (hp : p < len) (hz : len ≤ 1099511627776) (hlc : len ≤ c) (h : Rns w g R) (hok : okRs R) (hS : Lerr w er) :
    Calls Tryd.prog 88 #[.slice (some ⟨g, 0, none⟩) len c, .int .i64 (p : Int)] w (RetRd w er (signAt R p)) := by
  obtain ⟨W0, hW0⟩ : ∃ W0, W0 = w.alloc (.cells #[.int .i64 0, .int .i64 0, .string { data := #[] }, .int .i64 0] 37) := ⟨_, rfl⟩
  have hB0 : Below w.heap.size w W0 := by rw [hW0]; exact (Below.refl _ _).alloc (Nat.le_refl _) _
  have hr0 : Blk W0 w.heap.size 37 #[.int .i64 0, .int .i64 0, .string { data := #[] }, .int .i64 0] := by rw [hW0]; exact heap_alloc_new w _
  have h0 : Rns W0 g R := h.below hB0 h.lt
  have HB0 := Lib.hid hB0
  have HR0 := Lib.hid hr0
  have HE0 := Lib.hid (hS.below hB0)
  have hgp : (⟨g, 0, none⟩ : Addr).add p = ⟨g, p, none⟩ := lit_add g p
  have HCv1 := Lib.hid (fun C => conv_cut g C R p (p + 1) W0 h0 (by omega) hok)
  have HCv2 := Lib.hid (fun (h2 : p + 2 ≤ len) C => conv_cut g C R p (p + 2) W0 h0 (by omega) hok)
  rw [cut_one (by omega)] at HCv1
  have hcut2 : p + 2 ≤ len → cutE R p (p + 2) = encs [at0 R p, at0 R (p + 1)] := fun h2 => cut_two (by omega)
  have hno2 : sgn (at0 R p) (at0 R (p + 1)) = 2 → p + 2 ≤ len := fun h2 => by have := sgn_two h2; omega
  have hs2 := sgn_is2 (at0 R p) (at0 R (p + 1))
  have hs1 := @sgn_is1 (at0 R p) (at0 R (p + 1))
  have hsl := sgn_le (at0 R p) (at0 R (p + 1))
  have hx0 : sgn (at0 R p) (at0 R (p + 1)) = 0 → signAt R p = .bad 4 p := fun h => by unfold signAt; rw [if_pos h]
  have hx1 : sgn (at0 R p) (at0 R (p + 1)) = 1 → signAt R p = .tok ⟨4, p, encs [at0 R p], 0⟩ (p + 1) := fun h => by unfold signAt; rw [if_neg (by omega), h, cut_one (by omega)]
  have hx2 : sgn (at0 R p) (at0 R (p + 1)) = 2 → signAt R p = .tok ⟨4, p, encs [at0 R p, at0 R (p + 1)], 0⟩ (p + 2) := fun h => by unfold signAt; rw [if_neg (by omega), h, cut_two (by have := hno2 h; omega)]
  obtain ⟨X, hX⟩ : ∃ X, X = signAt R p := ⟨_, rfl⟩
  rw [← hX] at hx0 hx1 hx2 ⊢
  obtain ⟨y1, hy1⟩ : ∃ y, y = encs [at0 R p] := ⟨_, rfl⟩
  obtain ⟨y2, hy2⟩ : ∃ y, y = encs [at0 R p, at0 R (p + 1)] := ⟨_, rfl⟩
  rw [← hy1] at HCv1 hs1 hx1
  rw [← hy2] at hs2 hx2 hcut2
  have HS1 := Lib.hid (isSign_any ⟨y1.toArray⟩ W0)
  have HS2 := Lib.hid (isSign_any ⟨y2.toArray⟩ W0)
  rw [show ((⟨y1.toArray⟩ : ByteArray).data.toList) = y1 by simp] at HS1
  rw [show ((⟨y2.toArray⟩ : ByteArray).data.toList) = y2 by simp] at HS2
  obtain ⟨m, hm⟩ : ∃ m, m = sgn (at0 R p) (at0 R (p + 1)) := ⟨_, rfl⟩
  rw [← hm] at hno2 hs2 hs1 hsl hx0 hx1 hx2
  have hcv1 := HCv1.out
  have hg := HE0.out.rune
  have HFl := Lib.hid (fun W => fail_any p (er 4) W)
  have HBW := Lib.hid (Below.refl W0.heap.size W0)
  have hR1 := HR0.out
  obtain ⟨⟨c0, c1, c2, c3⟩, f0, f1, f2, f3⟩ := blk4 hR1
  have HR1 := Lib.hid hR1
  have hpc : p + 1 ≤ c := by omega
  clear hl h h0 hok hX HCv1 hS hB0 hr0 hm hy1 hy2 hR1
  have e11 : p + 1 - p = 1 := by omega
  have e22 : p + 2 - p = 2 := by omega
  rw [e11] at hcv1
  obtain ⟨k0, hk0, hk1⟩ : ∃ k0 : Nat, min ((p : Int) + 2) (len : Int) = (k0 : Int) ∧ ((k0 = p + 2 ∧ p + 2 ≤ len) ∨ (k0 = p + 1 ∧ m ≠ 2)) := by
    by_cases h2 : p + 2 ≤ len
    · exact ⟨p + 2, by omega, .inl ⟨rfl, h2⟩⟩
    · exact ⟨p + 1, by omega, .inr ⟨rfl, fun h => h2 (hno2 h)⟩⟩
  have HK := Lib.hid hk1
  have HX0 := Lib.hid hx0
  have HX1 := Lib.hid hx1
  have HX2 := Lib.hid hx2
  have HQ1 := Lib.hid hs1
  have HQ2 := Lib.hid hs2
  have HQL := Lib.hid hsl
  have HC2 := Lib.hid hcut2
  clear hk1 hx0 hx1 hx2 hs1 hs2 hsl hno2 hcut2
  go_enter Tryd.func88, Tryd.ntmps88
  go_wp2_with fail
  rw [← hW0]
  clear hW0
  go_loop [7, 8] (fun x _ => ∃ k : Nat, x = .int .i64 (k : Int) ∧ ((k = p + 2 ∧ p + 2 ≤ len) ∨ (k = p + 1 ∧ m ≠ 2) ∨ (k = p ∧ m = 0))) (fun x _ => (RowKit.intOf x).toNat - p)
  case atStart => exact ⟨k0, rfl, by rcases HK.out with h | h; exact .inl h; exact .inr (.inl h)⟩
  case round =>
    obtain ⟨k, rfl, ⟨rfl, h2⟩ | ⟨rfl, hm2⟩ | ⟨rfl, hm0⟩⟩ := hrel
    · have hcv2 := HCv2.out h2
      rw [HC2.out h2, e22] at hcv2
      have hpc2 : p + 2 ≤ c := by omega
      by_cases hy2 : y2 ∈ sgL
      · have HX := Lib.hid (HX2.out (HQ2.out.2 hy2))
        rw [decide_eq_true hy2] at HS2
        clear hy2
        go_wp2_with fail
        refine HS2.out.mono ?_
        rintro e w' ⟨rfl, rfl⟩
        go_wp2
        obtain ⟨⟨d0, d1, d2, d3⟩, _⟩ := blk4 (set4_blk HR1.out (.int .i64 4) (.int .i64 (p : Int)) (.string ⟨y2.toArray⟩) (.int .i64 0))
        unfold set4 at d0 d1 d2 d3
        refine bodyPost_ret (v := .tuple #[.agg #[.int .i64 4, .int .i64 (p : Int), .string ⟨y2.toArray⟩, .int .i64 0], .int .i64 ((p : Int) + 2), .nilIface]) (by simp [results, Tryd.results88, go_sem, d0, d1, d2, d3]) rfl ?_
        rw [HX.out]
        refine ⟨set4_below (HB0.out.trans (HBW.out.mono HB0.out.size)) (Nat.le_refl _) _ _ _ _, ?_⟩
        rfl
      · have hm2 : m ≠ 2 := fun h => hy2 (HQ2.out.1 h)
        rw [decide_eq_false hy2] at HS2
        have HM := Lib.hid hm2
        clear hy2 hm2
        go_wp2_with fail
        refine HS2.out.mono ?_
        rintro e w' ⟨rfl, rfl⟩
        go_wp2
        go_round
        case rel => exact ⟨p + 1, by go_num, .inr (.inl ⟨rfl, HM.out⟩)⟩
        case measure => simp [RowKit.intOf]; omega
    · by_cases hy1 : y1 ∈ sgL
      · have HX := Lib.hid (HX1.out ((HQ1.out hm2).2 hy1))
        rw [decide_eq_true hy1] at HS1
        clear hy1 hm2
        go_wp2_with fail
        refine HS1.out.mono ?_
        rintro e w' ⟨rfl, rfl⟩
        go_wp2
        obtain ⟨⟨d0, d1, d2, d3⟩, _⟩ := blk4 (set4_blk HR1.out (.int .i64 4) (.int .i64 (p : Int)) (.string ⟨y1.toArray⟩) (.int .i64 0))
        unfold set4 at d0 d1 d2 d3
        refine bodyPost_ret (v := .tuple #[.agg #[.int .i64 4, .int .i64 (p : Int), .string ⟨y1.toArray⟩, .int .i64 0], .int .i64 ((p : Int) + 1), .nilIface]) (by simp [results, Tryd.results88, go_sem, d0, d1, d2, d3]) rfl ?_
        rw [HX.out]
        refine ⟨set4_below (HB0.out.trans (HBW.out.mono HB0.out.size)) (Nat.le_refl _) _ _ _ _, ?_⟩
        rfl
      · have hm0 : m = 0 := by
          have h1 : ¬ m = 1 := fun h => hy1 ((HQ1.out hm2).1 h)
          have := HQL.out
          omega
        rw [decide_eq_false hy1] at HS1
        have HM := Lib.hid hm0
        clear hy1 hm2 hm0
        go_wp2_with fail
        refine HS1.out.mono ?_
        rintro e w' ⟨rfl, rfl⟩
        go_wp2
        go_round
        case rel => exact ⟨p, by go_num, .inr (.inr ⟨rfl, HM.out⟩)⟩
        case measure => simp [RowKit.intOf]
    · have HX := Lib.hid (HX0.out hm0)
      clear hm0 c0 c1 c2 c3 f0 f1 f2 f3
      go_wp2_with fail
      refine (HFl.out _).mono ?_
      rintro e w' ⟨hB1, b, hb, rfl, hbk⟩
      dsimp only [tkV]
      have HB1 := Lib.hid (HBW.out.trans (hB1.mono HBW.out.size))
      have HR1 := Lib.hid (HR0.out.below HB1.out HR0.out.lt)
      obtain ⟨⟨c0, c1, c2, c3⟩, f0, f1, f2, f3⟩ := blk4 HR1.out
      have HBk := Lib.hid hbk
      clear hbk hB1
      go_wp2
      obtain ⟨⟨d0, d1, d2, d3⟩, _⟩ := blk4 (set4_blk HR1.out (.int .i64 0) (.int .i64 0) (.string { data := #[] }) (.int .i64 0))
      unfold set4 at d0 d1 d2 d3
      refine bodyPost_ret (v := .tuple #[tkV ⟨0, 0, [], 0⟩, .int .i64 0, .iface 85 (.pointer (some ⟨b, 0, none⟩))]) (by simp [results, Tryd.results88, go_sem, tkV, d0, d1, d2, d3]) rfl ?_
      rw [HX.out]
      exact ⟨set4_below (HB0.out.trans (HB1.out.mono HB0.out.size)) (Nat.le_refl _) _ _ _ _, b, by have := HB0.out.size; have := HBW.out.size; omega, rfl, set4_far HBk.out (by have := HR0.out.lt; have := HBW.out.size; omega) _ _ _ _⟩

set_option maxRecDepth 100000 in
set_option maxHeartbeats 4000000 in
theorem read_any (g c : Nat) (R : List Nat) (len i : Nat) (er : Nat → Addr) (w : World) (hl : len = R.length) (hi : i ≤ len) (hz : len ≤ 1099511627776) (hlc : len ≤ c) (h : Rns w g R) (hok : okRs R) (hS : Lerr w er) :
    Calls Tryd.prog 53 #[.slice (some ⟨g, 0, none⟩) len c, .int .i64 (i : Int)] w (RetRd w er (rd R i)) := by
  have hq := sk_le R i
  obtain ⟨p, hp⟩ : ∃ p, p = sk R i := ⟨_, rfl⟩
  obtain ⟨W0, hW0⟩ : ∃ W0, W0 = w.alloc (.cells #[.int .i64 0, .int .i64 0, .string { data := #[] }, .int .i64 0] 37) := ⟨_, rfl⟩
  have hB0 : Below w.heap.size w W0 := by rw [hW0]; exact (Below.refl _ _).alloc (Nat.le_refl _) _
  have hr0 : Blk W0 w.heap.size 37 #[.int .i64 0, .int .i64 0, .string { data := #[] }, .int .i64 0] := by rw [hW0]; exact heap_alloc_new w _
  have h0 : Rns W0 g R := h.below hB0 h.lt
  have HB0 := Lib.hid hB0
  have HR0 := Lib.hid hr0
  have HE0 := Lib.hid (hS.below hB0)
  have hgp : (⟨g, 0, none⟩ : Addr).add p = ⟨g, p, none⟩ := lit_add g p
  have HSk := Lib.hid (skip_any g c R len i W0 hl hi hz h0)
  unfold rd
  rw [← hp] at HSk hq ⊢
  have HAt := Lib.hid (at_any g c R len p W0 hl h0)
  have HLt := Lib.hid (fun W => letter_any (at0 R p : Int) W)
  have HDg := Lib.hid (fun W => isDig_any (at0 R p) W)
  have HNm := Lib.hid (fun h1 h2 => lname_any g c R len p er W0 hl h1 hz hlc h0 hok HE0.out h2)
  have HNu := Lib.hid (fun h1 h2 => lnumber_any g c R len p er W0 hl h1 hz hlc h0 hok HE0.out h2)
  have HSi := Lib.hid (fun h1 => lsign_any g c R len p er W0 hl h1 hz hlc h0 hok HE0.out)
  have hx0 : at0 R p = 0 → rdAt R p = .tok ⟨0, p, [], 0⟩ p := fun h => by unfold rdAt; rw [if_pos h]
  have hx1 : ¬ at0 R p = 0 → letB (at0 R p : Int) = true → rdAt R p = nameAt R p := fun h h1 => by unfold rdAt; rw [if_neg h, if_pos h1]
  have hx2 : ¬ at0 R p = 0 → letB (at0 R p : Int) = false → isDig (at0 R p) = true → rdAt R p = numAt R p := fun h h1 h2 => by unfold rdAt; rw [if_neg h, if_neg (by simp [h1]), if_pos h2]
  have hx3 : ¬ at0 R p = 0 → letB (at0 R p : Int) = false → isDig (at0 R p) = false → rdAt R p = signAt R p := fun h h1 h2 => by unfold rdAt; rw [if_neg h, if_neg (by simp [h1]), if_neg (by simp [h2])]
  have hlt : ¬ at0 R p = 0 → p < len := fun h => Nat.lt_of_not_le fun h2 => h (at0_ge (by omega))
  obtain ⟨X, hX⟩ : ∃ X, X = rdAt R p := ⟨_, rfl⟩
  rw [← hX] at hx0 hx1 hx2 hx3 ⊢
  obtain ⟨Xn, hXn⟩ : ∃ X, X = nameAt R p := ⟨_, rfl⟩
  obtain ⟨Xu, hXu⟩ : ∃ X, X = numAt R p := ⟨_, rfl⟩
  obtain ⟨Xs, hXs⟩ : ∃ X, X = signAt R p := ⟨_, rfl⟩
  rw [← hXn] at HNm hx1
  rw [← hXu] at HNu hx2
  rw [← hXs] at HSi hx3
  obtain ⟨a, ha⟩ : ∃ a, a = at0 R p := ⟨_, rfl⟩
  rw [← ha] at HAt HLt HDg HNm HNu hx0 hx1 hx2 hx3 hlt
  clear hl h h0 hok hX hS hB0 hr0 hp ha hXn hXu hXs hq hgp
  by_cases h0 : a = 0
  · have hai : ((a : Int) == 0) = true := by simp [h0]
    have HX := Lib.hid (hx0 h0)
    have HBW := Lib.hid (Below.refl W0.heap.size W0)
    clear h0 hx0 hx1 hx2 hx3 hlt
    go_enter Tryd.func53, Tryd.ntmps53
    go_wp2_with fail
    rw [← hW0]
    clear hW0
    refine HSk.out.mono ?_
    rintro e w' ⟨rfl, rfl⟩
    go_wp2_with fail
    refine HAt.out.mono ?_
    rintro e w' ⟨rfl, rfl⟩
    have HR1 := Lib.hid (HR0.out.below HBW.out HR0.out.lt)
    obtain ⟨⟨c0, c1, c2, c3⟩, f0, f1, f2, f3⟩ := blk4 HR1.out
    go_wp2
    obtain ⟨⟨d0, d1, d2, d3⟩, _⟩ := blk4 (set4_blk HR1.out (.int .i64 0) (.int .i64 (p : Int)) (.string { data := #[] }) (.int .i64 0))
    unfold set4 at d0 d1 d2 d3
    refine bodyPost_ret (v := .tuple #[.agg #[.int .i64 0, .int .i64 (p : Int), .string { data := #[] }, .int .i64 0], .int .i64 (p : Int), .nilIface]) (by simp [results, Tryd.results53, go_sem, d0, d1, d2, d3]) rfl ?_
    rw [HX.out]
    refine ⟨set4_below (HB0.out.trans (HBW.out.mono HB0.out.size)) (Nat.le_refl _) _ _ _ _, ?_⟩
    rfl
  have hai : ((a : Int) == 0) = false := beq_eq_false_iff_ne.2 (by omega)
  have hpl := hlt h0
  cases hl : letB (a : Int)
  · rw [hl] at HLt
    cases hd : isDig a
    · rw [hd] at HDg
      have HX := Lib.hid (hx3 h0 hl hd)
      have HY := Lib.hid (HSi.out hpl)
      clear hx0 hx1 hx2 hx3 hlt hl hd h0 HSi HNm HNu
      go_enter Tryd.func53, Tryd.ntmps53
      go_wp2_with fail
      rw [← hW0]
      clear hW0
      refine HSk.out.mono ?_
      rintro e w' ⟨rfl, rfl⟩
      go_wp2_with fail
      refine HAt.out.mono ?_
      rintro e w' ⟨rfl, rfl⟩
      go_wp2_with fail
      refine (HLt.out _).mono ?_
      rintro e w' ⟨rfl, rfl⟩
      go_wp2_with fail
      refine (HDg.out _).mono ?_
      rintro e w' ⟨rfl, rfl⟩
      go_wp2_with fail
      refine HY.out.mono ?_
      rintro e w' ⟨hB1, hx⟩
      have HB1 := Lib.hid hB1
      have HR1 := Lib.hid (HR0.out.below hB1 HR0.out.lt)
      obtain ⟨⟨c0, c1, c2, c3⟩, f0, f1, f2, f3⟩ := blk4 HR1.out
      clear hB1
      cases Xs with
      | tok t k =>
        subst hx
        obtain ⟨kind, pos, text, n⟩ := t
        dsimp only [tkV]
        go_wp2
        obtain ⟨⟨d0, d1, d2, d3⟩, _⟩ := blk4 (set4_blk HR1.out (.int .i64 (kind : Int)) (.int .i64 (pos : Int)) (.string ⟨text.toArray⟩) (.int .i64 (n : Int)))
        unfold set4 at d0 d1 d2 d3
        refine bodyPost_ret (v := .tuple #[tkV ⟨kind, pos, text, n⟩, .int .i64 (k : Int), .nilIface]) (by simp [results, Tryd.results53, go_sem, tkV, d0, d1, d2, d3]) rfl ?_
        rw [HX.out]
        exact ⟨set4_below (HB0.out.trans (HB1.out.mono HB0.out.size)) (Nat.le_refl _) _ _ _ _, rfl⟩
      | bad q pos =>
        obtain ⟨b, hb, rfl, hbk⟩ := hx
        have HBk := Lib.hid hbk
        clear hbk
        dsimp only [tkV]
        go_wp2
        obtain ⟨⟨d0, d1, d2, d3⟩, _⟩ := blk4 (set4_blk HR1.out (.int .i64 0) (.int .i64 0) (.string { data := #[] }) (.int .i64 0))
        unfold set4 at d0 d1 d2 d3
        refine bodyPost_ret (v := .tuple #[tkV ⟨0, 0, [], 0⟩, .int .i64 0, .iface 85 (.pointer (some ⟨b, 0, none⟩))]) (by simp [results, Tryd.results53, go_sem, tkV, d0, d1, d2, d3]) rfl ?_
        rw [HX.out]
        exact ⟨set4_below (HB0.out.trans (HB1.out.mono HB0.out.size)) (Nat.le_refl _) _ _ _ _, b, by have := HB0.out.size; omega, rfl, set4_far HBk.out (by have := HR0.out.lt; omega) _ _ _ _⟩
    · rw [hd] at HDg
      have HX := Lib.hid (hx2 h0 hl hd)
      have HY := Lib.hid (HNu.out hpl hd)
      clear hx0 hx1 hx2 hx3 hlt hl hd h0 HSi HNm HNu
      go_enter Tryd.func53, Tryd.ntmps53
      go_wp2_with fail
      rw [← hW0]
      clear hW0
      refine HSk.out.mono ?_
      rintro e w' ⟨rfl, rfl⟩
      go_wp2_with fail
      refine HAt.out.mono ?_
      rintro e w' ⟨rfl, rfl⟩
      go_wp2_with fail
      refine (HLt.out _).mono ?_
      rintro e w' ⟨rfl, rfl⟩
      go_wp2_with fail
      refine (HDg.out _).mono ?_
      rintro e w' ⟨rfl, rfl⟩
      go_wp2_with fail
      refine HY.out.mono ?_
      rintro e w' ⟨hB1, hx⟩
      have HB1 := Lib.hid hB1
      have HR1 := Lib.hid (HR0.out.below hB1 HR0.out.lt)
      obtain ⟨⟨c0, c1, c2, c3⟩, f0, f1, f2, f3⟩ := blk4 HR1.out
      clear hB1
      cases Xu with
      | tok t k =>
        subst hx
        obtain ⟨kind, pos, text, n⟩ := t
        dsimp only [tkV]
        go_wp2
        obtain ⟨⟨d0, d1, d2, d3⟩, _⟩ := blk4 (set4_blk HR1.out (.int .i64 (kind : Int)) (.int .i64 (pos : Int)) (.string ⟨text.toArray⟩) (.int .i64 (n : Int)))
        unfold set4 at d0 d1 d2 d3
        refine bodyPost_ret (v := .tuple #[tkV ⟨kind, pos, text, n⟩, .int .i64 (k : Int), .nilIface]) (by simp [results, Tryd.results53, go_sem, tkV, d0, d1, d2, d3]) rfl ?_
        rw [HX.out]
        exact ⟨set4_below (HB0.out.trans (HB1.out.mono HB0.out.size)) (Nat.le_refl _) _ _ _ _, rfl⟩
      | bad q pos =>
        obtain ⟨b, hb, rfl, hbk⟩ := hx
        have HBk := Lib.hid hbk
        clear hbk
        dsimp only [tkV]
        go_wp2
        obtain ⟨⟨d0, d1, d2, d3⟩, _⟩ := blk4 (set4_blk HR1.out (.int .i64 0) (.int .i64 0) (.string { data := #[] }) (.int .i64 0))
        unfold set4 at d0 d1 d2 d3
        refine bodyPost_ret (v := .tuple #[tkV ⟨0, 0, [], 0⟩, .int .i64 0, .iface 85 (.pointer (some ⟨b, 0, none⟩))]) (by simp [results, Tryd.results53, go_sem, tkV, d0, d1, d2, d3]) rfl ?_
        rw [HX.out]
        exact ⟨set4_below (HB0.out.trans (HB1.out.mono HB0.out.size)) (Nat.le_refl _) _ _ _ _, b, by have := HB0.out.size; omega, rfl, set4_far HBk.out (by have := HR0.out.lt; omega) _ _ _ _⟩
  · rw [hl] at HLt
    have HX := Lib.hid (hx1 h0 hl)
    have HY := Lib.hid (HNm.out hpl hl)
    clear hx0 hx1 hx2 hx3 hlt hl h0 HSi HNm HNu HDg
    go_enter Tryd.func53, Tryd.ntmps53
    go_wp2_with fail
    rw [← hW0]
    clear hW0
    refine HSk.out.mono ?_
    rintro e w' ⟨rfl, rfl⟩
    go_wp2_with fail
    refine HAt.out.mono ?_
    rintro e w' ⟨rfl, rfl⟩
    go_wp2_with fail
    refine (HLt.out _).mono ?_
    rintro e w' ⟨rfl, rfl⟩
    go_wp2_with fail
    refine HY.out.mono ?_
    rintro e w' ⟨hB1, hx⟩
    have HB1 := Lib.hid hB1
    have HR1 := Lib.hid (HR0.out.below hB1 HR0.out.lt)
    obtain ⟨⟨c0, c1, c2, c3⟩, f0, f1, f2, f3⟩ := blk4 HR1.out
    clear hB1
    cases Xn with
    | tok t k =>
      subst hx
      obtain ⟨kind, pos, text, n⟩ := t
      dsimp only [tkV]
      go_wp2
      obtain ⟨⟨d0, d1, d2, d3⟩, _⟩ := blk4 (set4_blk HR1.out (.int .i64 (kind : Int)) (.int .i64 (pos : Int)) (.string ⟨text.toArray⟩) (.int .i64 (n : Int)))
      unfold set4 at d0 d1 d2 d3
      refine bodyPost_ret (v := .tuple #[tkV ⟨kind, pos, text, n⟩, .int .i64 (k : Int), .nilIface]) (by simp [results, Tryd.results53, go_sem, tkV, d0, d1, d2, d3]) rfl ?_
      rw [HX.out]
      exact ⟨set4_below (HB0.out.trans (HB1.out.mono HB0.out.size)) (Nat.le_refl _) _ _ _ _, rfl⟩
    | bad q pos =>
      obtain ⟨b, hb, rfl, hbk⟩ := hx
      have HBk := Lib.hid hbk
      clear hbk
      dsimp only [tkV]
      go_wp2
      obtain ⟨⟨d0, d1, d2, d3⟩, _⟩ := blk4 (set4_blk HR1.out (.int .i64 0) (.int .i64 0) (.string { data := #[] }) (.int .i64 0))
      unfold set4 at d0 d1 d2 d3
      refine bodyPost_ret (v := .tuple #[tkV ⟨0, 0, [], 0⟩, .int .i64 0, .iface 85 (.pointer (some ⟨b, 0, none⟩))]) (by simp [results, Tryd.results53, go_sem, tkV, d0, d1, d2, d3]) rfl ?_
      rw [HX.out]
      exact ⟨set4_below (HB0.out.trans (HB1.out.mono HB0.out.size)) (Nat.le_refl _) _ _ _ _, b, by have := HB0.out.size; omega, rfl, set4_far HBk.out (by have := HR0.out.lt; omega) _ _ _ _⟩
end Go.Proofs.YtndagbmcdpafjaaDoor
