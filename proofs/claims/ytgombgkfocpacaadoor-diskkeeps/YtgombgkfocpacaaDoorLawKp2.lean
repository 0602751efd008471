/-
  The walk of DiskKeeps. Conditions: each theorem's own premises.
-/
import Derived.Test.YtgombgkfocpacaaDoorLawKp
namespace Go.Proofs.YtgombgkfocpacaaDoor
open Go.RowKit Go.Maps

set_option maxRecDepth 100000 in
set_option maxHeartbeats 1000000 in
theorem diskKeeps_big (A1 A2 A3 : Option Addr) (n1 c1 n2 c2 n3 c3 : Nat) (w : World) (h : 100 < n1 ∨ 100 < n2 ∨ 16 < n3) :
    Calls Tryd.prog 4 #[.slice A1 n1 c1, .slice A2 n2 c2, .slice A3 n3 c3] w (RetYes w) := by
  by_cases h1 : 100 < n1
  · have h1' : (100 : Int) < n1 := by omega
    go_enter Tryd.func4, Tryd.ntmps4
    go_wp2_with fail
    refine (first_any w).mono ?_
    rintro e w1 ⟨rfl, hB1⟩
    go_wp2
    go_ret
    exact ⟨rfl, hB1⟩
  · have h1' : ¬ (100 : Int) < n1 := by omega
    by_cases h2 : 100 < n2
    · have h2' : (100 : Int) < n2 := by omega
      go_enter Tryd.func4, Tryd.ntmps4
      go_wp2_with fail
      refine (first_any w).mono ?_
      rintro e w1 ⟨rfl, hB1⟩
      go_wp2
      go_ret
      exact ⟨rfl, hB1⟩
    · have h2' : ¬ (100 : Int) < n2 := by omega
      have h3' : (16 : Int) < n3 := by omega
      go_enter Tryd.func4, Tryd.ntmps4
      go_wp2_with fail
      refine (first_any w).mono ?_
      rintro e w1 ⟨rfl, hB1⟩
      go_wp2
      go_ret
      exact ⟨rfl, hB1⟩

set_option maxRecDepth 100000 in
set_option maxHeartbeats 2000000 in
theorem diskKeeps_small (A1 A2 A3 : Option Addr) (n1 c1 n2 c2 n3 c3 : Nat) (l1 l2 : List UInt8) (zs : List Int) (w : World) (h1 : n1 = l1.length) (h2 : n2 = l2.length) (h3 : n3 = zs.length) (hs1 : Str w w.heap.size A1 l1) (hs2 : Str w w.heap.size A2 l2) (hs3 : Ints w w.heap.size A3 zs) (hl1 : n1 ≤ 100) (hl2 : n2 ≤ 100) (hl3 : n3 ≤ 16) :
    Calls Tryd.prog 4 #[.slice A1 n1 c1, .slice A2 n2 c2, .slice A3 n3 c3] w (RetYes w) := by
  have i1 : ¬ (100 : Int) < n1 := by omega
  have i2 : ¬ (100 : Int) < n2 := by omega
  have i3 : ¬ (16 : Int) < n3 := by omega
  have H1 := Lib.hid h1
  have H2 := Lib.hid h2
  have H3 := Lib.hid h3
  have S1 := Lib.hid hs1
  have S2 := Lib.hid hs2
  have S3 := Lib.hid hs3
  clear h1 h2 h3 hs1 hs2 hs3
  go_enter Tryd.func4, Tryd.ntmps4
  go_wp2_with fail
  refine (first_any w).mono ?_
  rintro e w1 ⟨rfl, hB1⟩
  have HB1 := Lib.hid hB1
  clear hB1
  go_wp2_with fail
  refine (new_ok 16 w1 (by omega) (by omega)).mono ?_
  rintro e w2 ⟨g, f, m, rfl, hg, hf, hm, hD2, hB2⟩
  have HB2 := Lib.hid (HB1.out.trans (hB2.mono HB1.out.size))
  have hg' : w.heap.size ≤ g := Nat.le_trans HB1.out.size hg
  have hf' : w.heap.size ≤ f := Nat.le_trans HB1.out.size hf
  have hm' : w.heap.size ≤ m := Nat.le_trans HB1.out.size hm
  have HD2 := Lib.hid hD2
  clear hD2 hB2 HB1 hg hf hm
  go_wp2_with fail
  go_loopw [10] (fun i wr => KpR1 w g f m l1 i wr) (fun i _ => 8 - (intOf i).toNat)
  case atStart => exact ⟨0, newD 16, Nat.zero_le _, rfl, HD2.out, ⟨rfl, rfl, rfl, rfl, fun i => by simp [newD, getP]⟩, HB2.out⟩
  case round =>
    obtain ⟨k, s, hk, rfl, hDk, hA, hB⟩ := hrel
    have HDk := Lib.hid hDk
    have HA := Lib.hid hA
    have HB := Lib.hid hB
    clear hDk hA hB
    by_cases hlt : k < 8
    · have hltI : (k : Int) < 8 := by omega
      go_wp2_with fail
      have hw := write_ok g f m s (2 * (k : Int)) w.heap.size A1 c1 l1 wr HDk.out (by rw [HA.out.2.2.1, HA.out.2.2.2.1]; rfl) (by rw [HA.out.1, List.length_replicate]; omega) (by have := H1.out; omega) (S1.out.below HB.out) HB.out.size
        (fun ad _ hb => by omega) (by rw [HA.out.2.2.1]; omega) (by rw [HA.out.2.1]; omega)
      rw [← H1.out] at hw
      refine hw.mono ?_
      rintro e w4 ⟨rfl, hD4, hF4⟩
      have HB4 := Lib.hid (below_fr HB.out hF4 HB.out.size (by simp; omega))
      have HD4 := Lib.hid hD4
      clear hD4 hF4 hw
      go_wp2
      go_roundw
      case rel => exact ⟨k + 1, _, by omega, by go_num, HD4.out, kpA_step HDk.out.ok HA.out, HB4.out⟩
      case measure => simp [intOf]; omega
    · obtain rfl : k = 8 := by omega
      go_wp2_with fail
      refine (flush_ok g f m s wr HDk.out (by rw [HA.out.2.2.1, HA.out.2.2.2.1]; rfl) (by rw [HA.out.2.2.1]; omega) (by rw [HA.out.2.1]; omega)).mono ?_
      rintro e w5 ⟨rfl, m5, hm5, hD5, hF5⟩
      have HB5 := Lib.hid (below_fr HB.out hF5 HB.out.size (by simp; omega))
      have hm5' : w.heap.size ≤ m5 := by
        rcases hm5 with rfl | h
        · exact hm'
        · exact Nat.le_trans HB.out.size h
      have HD5 := Lib.hid hD5
      have HC5 : Hid (KpC 0 l1 l2 (flushD s)) := Lib.hid ⟨kpB_of HA.out, by show s.calls + 1 = _; rw [HA.out.2.1]; rfl, by show powA s.armed = 0; rw [HA.out.2.2.1]; rfl, rfl, rfl⟩
      clear hD5 hF5 HDk HA HB hm5 HD2 HB2
      go_wp2_with fail
      go_loopw [11] (fun i wr => KpR2 w g f m5 l1 l2 i wr) (fun i _ => 16 - (intOf i).toNat)
      case atStart => exact ⟨0, _, Nat.zero_le _, rfl, HD5.out, HC5.out, HB5.out⟩
      case round =>
        obtain ⟨k, s, hk, rfl, hDk, hA, hB⟩ := hrel
        have HDk := Lib.hid hDk
        have HA := Lib.hid hA
        have HB := Lib.hid hB
        clear hDk hA hB
        by_cases hlt : k < 16
        · have hltI : (k : Int) < 16 := by omega
          go_wp2_with fail
          have hw := write_ok g f m5 s (k : Int) w.heap.size A2 c2 l2 _ HDk.out (by rw [HA.out.2.2.1, HA.out.2.2.2.1]; rfl) (by rw [HA.out.1.1]; omega) (by have := H2.out; omega) (S2.out.below HB.out) HB.out.size
            (fun ad _ hb => by omega) (by rw [HA.out.2.2.1]; omega) (by rw [HA.out.2.1]; omega)
          rw [← H2.out] at hw
          refine hw.mono ?_
          rintro e w4 ⟨rfl, hD4, hF4⟩
          have HB4 := Lib.hid (below_fr HB.out hF4 HB.out.size (by simp; omega))
          have HD4 := Lib.hid hD4
          clear hD4 hF4 hw
          go_wp2
          go_roundw
          case rel => exact ⟨k + 1, _, by omega, by go_num, HD4.out, kpC_step HA.out, HB4.out⟩
          case measure => simp [intOf]; omega
        · obtain rfl : k = 16 := by omega
          go_wp2_with fail
          refine (crash_any g f m5 s w.heap.size A3 n3 c3 zs _ HDk.out (S3.out.below HB.out) H3.out HB.out.size (fun ad _ hb => by omega)).mono ?_
          rintro e w6 ⟨rfl, m6, hm6, hD6, hF6⟩
          have HB6 := Lib.hid (below_fr HB.out hF6 HB.out.size (by simp; omega))
          have HD6 := Lib.hid hD6
          have hlen : (crashD s zs).kept.length = 16 := by show (crashK _ _ _).length = 16; rw [crashK_length, HA.out.1.1]
          have HL := Lib.hid (fun i hi => kp_look (zs := zs) HA.out i hi)
          have hdn : (crashD s zs).down = false := rfl
          have hpn : (crashD s zs).pend = [] := rfl
          clear hF6 hD6 HDk HA HB HD5 HC5 HB5
          generalize crashD s zs = s6 at *
          go_wp2_with fail
          go_loopw [12] (fun i wr => KpR3 w g f m6 s6 i wr) (fun i _ => 16 - (intOf i).toNat)
          case atStart => exact ⟨0, Nat.zero_le _, rfl, HD6.out, HB6.out⟩
          case round =>
            obtain ⟨k, hk, rfl, hDk, hB⟩ := hrel
            have HDk := Lib.hid hDk
            have HB := Lib.hid hB
            clear hDk hB
            by_cases hlt : k < 16
            · have hltI : (k : Int) < 16 := by omega
              have hlk := HL.out k hlt
              have HDn := Lib.hid hdn
              have hevT : k % 2 = 0 → ((k : Int) % 2 == 0) = true := fun h => by rw [beq_iff_eq]; omega
              have hevF : ¬ k % 2 = 0 → ((k : Int) % 2 == 0) = false := fun h => by rw [beq_eq_false_iff_ne]; omega
              by_cases hkn : k < zs.length
              · have hknI : (k : Int) < n3 := by have := H3.out; omega
                obtain ⟨ad, rfl, hb, hc⟩ := S3.out.pick hkn
                obtain ⟨z, hz⟩ : ∃ z, z = zs[k] := ⟨_, rfl⟩
                rw [← hz] at hc
                rw [pk_drop hkn, ← hz] at hlk
                have HCz : Hid (∀ W, Below w.heap.size w W → W.cell? (ad.add k) = some (.int .i64 z)) := Lib.hid fun W hW => (hW.cell (p := ad.add k) (by rw [add_block]; exact hb)).trans hc
                clear hz hc hb
                cases ho : oddI z
                · have hob : (bits BinOp.and IntKind.i64 z 1 == 1) = false := ho
                  rw [ho] at hlk
                  by_cases hev : k % 2 = 0
                  · have hevI := hevT hev
                    rw [if_neg (by simp), if_pos hev] at hlk
                    have HLk := Lib.hid hlk
                    clear hlk hev hevT hevF ho hdn
                    go_wp2_with fail
                    refine (read_ok g f m6 s6 k _ HDk.out HDn.out (by omega)).mono ?_
                    rw [HLk.out]
                    rintro e w7 ⟨hB7, hx, cx, rfl, hxl, hst7, hle7, _⟩
                    have HB7 := Lib.hid (HB.out.trans (hB7.mono HB.out.size))
                    have hF7 : Fr [] _ w7 := (Fr.refl [] _).belows hB7 (Nat.le_refl _)
                    have HD7 := Lib.hid (HDk.out.fr hF7 (by simp) (by simp) (by simp))
                    have HS7 := Lib.hid hst7
                    have hc7 : w7.cell? (ad.add k) = some (.int .i64 z) := HCz.out w7 HB7.out
                    clear hB7 hF7 hst7 HDk HB
                    go_wp2_with fail
                    refine (same_any (some ⟨hx, 0, none⟩) A1 _ n1 cx c1 l1 l1 w7 _ _ rfl H1.out (by omega) HS7.out (S1.out.below HB7.out)).mono ?_
                    rintro e w8 ⟨rfl, nq, rfl⟩
                    rw [show sameB l1 l1 = true from decide_eq_true rfl]
                    have HB8 := Lib.hid (HB7.out.trans ((below_drewN w7 nq).mono HB7.out.size))
                    have HD8 := Lib.hid (HD7.out.fr ((Fr.refl [] w7).drew nq) (by simp) (by simp) (by simp))
                    generalize w7.drewN nq = w8 at *
                    clear HD7 HB7 HS7
                    go_wp2
                    go_roundw
                    case rel => exact ⟨k + 1, by omega, by go_num, HD8.out, HB8.out⟩
                    case measure => simp [intOf]; omega
                  · have hevI := hevF hev
                    rw [if_neg (by simp), if_neg hev] at hlk
                    have HLk := Lib.hid hlk
                    clear hlk hev hevT hevF ho hdn
                    go_wp2_with fail
                    refine (read_ok g f m6 s6 k _ HDk.out HDn.out (by omega)).mono ?_
                    rw [HLk.out]
                    rintro e w7 ⟨hB7, he⟩
                    obtain rfl : e = .returned (.tuple #[.slice none 0 0, .bool false, .nilIface]) := he
                    have HB7 := Lib.hid (HB.out.trans (hB7.mono HB.out.size))
                    have HD7 := Lib.hid (HDk.out.fr ((Fr.refl [] _).belows hB7 (Nat.le_refl _)) (by simp) (by simp) (by simp))
                    have hc7 : w7.cell? (ad.add k) = some (.int .i64 z) := HCz.out w7 HB7.out
                    clear hB7 HDk HB
                    go_wp2
                    go_roundw
                    case rel => exact ⟨k + 1, by omega, by go_num, HD7.out, HB7.out⟩
                    case measure => simp [intOf]; omega
                · have hob : (bits BinOp.and IntKind.i64 z 1 == 1) = true := ho
                  rw [ho, if_pos rfl] at hlk
                  have HLk := Lib.hid hlk
                  clear hlk hevT hevF ho hdn
                  go_wp2_with fail
                  refine (read_ok g f m6 s6 k _ HDk.out HDn.out (by omega)).mono ?_
                  rw [HLk.out]
                  rintro e w7 ⟨hB7, hx, cx, rfl, hxl, hst7, hle7, _⟩
                  have HB7 := Lib.hid (HB.out.trans (hB7.mono HB.out.size))
                  have hF7 : Fr [] _ w7 := (Fr.refl [] _).belows hB7 (Nat.le_refl _)
                  have HD7 := Lib.hid (HDk.out.fr hF7 (by simp) (by simp) (by simp))
                  have HS7 := Lib.hid hst7
                  have hc7 : w7.cell? (ad.add k) = some (.int .i64 z) := HCz.out w7 HB7.out
                  clear hB7 hF7 hst7 HDk HB
                  go_wp2_with fail
                  refine (same_any (some ⟨hx, 0, none⟩) A2 _ n2 cx c2 l2 l2 w7 _ _ rfl H2.out (by omega) HS7.out (S2.out.below HB7.out)).mono ?_
                  rintro e w8 ⟨rfl, nq, rfl⟩
                  rw [show sameB l2 l2 = true from decide_eq_true rfl]
                  have HB8 := Lib.hid (HB7.out.trans ((below_drewN w7 nq).mono HB7.out.size))
                  have HD8 := Lib.hid (HD7.out.fr ((Fr.refl [] w7).drew nq) (by simp) (by simp) (by simp))
                  generalize w7.drewN nq = w8 at *
                  clear HD7 HB7 HS7
                  go_wp2
                  go_roundw
                  case rel => exact ⟨k + 1, by omega, by go_num, HD8.out, HB8.out⟩
                  case measure => simp [intOf]; omega
              · have hknI : ¬ (k : Int) < n3 := by have := H3.out; omega
                rw [pk_none hkn] at hlk
                by_cases hev : k % 2 = 0
                · have hevI := hevT hev
                  rw [if_neg (by simp), if_pos hev] at hlk
                  have HLk := Lib.hid hlk
                  clear hlk hev hevT hevF hdn
                  go_wp2_with fail
                  refine (read_ok g f m6 s6 k _ HDk.out HDn.out (by omega)).mono ?_
                  rw [HLk.out]
                  rintro e w7 ⟨hB7, hx, cx, rfl, hxl, hst7, hle7, _⟩
                  have HB7 := Lib.hid (HB.out.trans (hB7.mono HB.out.size))
                  have hF7 : Fr [] _ w7 := (Fr.refl [] _).belows hB7 (Nat.le_refl _)
                  have HD7 := Lib.hid (HDk.out.fr hF7 (by simp) (by simp) (by simp))
                  have HS7 := Lib.hid hst7
                  clear hB7 hF7 hst7 HDk HB
                  go_wp2_with fail
                  refine (same_any (some ⟨hx, 0, none⟩) A1 _ n1 cx c1 l1 l1 w7 _ _ rfl H1.out (by omega) HS7.out (S1.out.below HB7.out)).mono ?_
                  rintro e w8 ⟨rfl, nq, rfl⟩
                  rw [show sameB l1 l1 = true from decide_eq_true rfl]
                  have HB8 := Lib.hid (HB7.out.trans ((below_drewN w7 nq).mono HB7.out.size))
                  have HD8 := Lib.hid (HD7.out.fr ((Fr.refl [] w7).drew nq) (by simp) (by simp) (by simp))
                  generalize w7.drewN nq = w8 at *
                  clear HD7 HB7 HS7
                  go_wp2
                  go_roundw
                  case rel => exact ⟨k + 1, by omega, by go_num, HD8.out, HB8.out⟩
                  case measure => simp [intOf]; omega
                · have hevI := hevF hev
                  rw [if_neg (by simp), if_neg hev] at hlk
                  have HLk := Lib.hid hlk
                  clear hlk hev hevT hevF hdn
                  go_wp2_with fail
                  refine (read_ok g f m6 s6 k _ HDk.out HDn.out (by omega)).mono ?_
                  rw [HLk.out]
                  rintro e w7 ⟨hB7, he⟩
                  obtain rfl : e = .returned (.tuple #[.slice none 0 0, .bool false, .nilIface]) := he
                  have HB7 := Lib.hid (HB.out.trans (hB7.mono HB.out.size))
                  have HD7 := Lib.hid (HDk.out.fr ((Fr.refl [] _).belows hB7 (Nat.le_refl _)) (by simp) (by simp) (by simp))
                  clear hB7 HDk HB
                  go_wp2
                  go_roundw
                  case rel => exact ⟨k + 1, by omega, by go_num, HD7.out, HB7.out⟩
                  case measure => simp [intOf]; omega
            · obtain rfl : k = 16 := by omega
              obtain ⟨k9, hH9, _, _⟩ := HDk.out.head
              go_wp2_with fail
              refine (pending_head g f m6 _ k9 _ _ _ _ hH9 HDk.out.map).mono ?_
              rintro e w9 ⟨rfl, rfl⟩
              rw [hpn]
              go_wp2
              go_ret
              exact ⟨rfl, HB.out⟩

theorem diskKeeps_walk (A1 : Option Addr) (n1 c1 : Nat) (l1 : List UInt8) (A2 : Option Addr) (n2 c2 : Nat) (l2 : List UInt8) (A3 : Option Addr) (n3 c3 : Nat) (zs : List Int) (w : World)
    (h1 : n1 = l1.length) (hs1 : Str w w.heap.size A1 l1) (h2 : n2 = l2.length) (hs2 : Str w w.heap.size A2 l2) (h3 : n3 = zs.length) (hs3 : Ints w w.heap.size A3 zs) (_ : ∀ z ∈ zs, -9223372036854775808 ≤ z ∧ z ≤ 9223372036854775807) :
    Calls Tryd.prog 4 #[.slice A1 n1 c1, .slice A2 n2 c2, .slice A3 n3 c3] w (RetYes w) := by
  by_cases h : 100 < n1 ∨ 100 < n2 ∨ 16 < n3
  · exact diskKeeps_big A1 A2 A3 n1 c1 n2 c2 n3 c3 w h
  · exact diskKeeps_small A1 A2 A3 n1 c1 n2 c2 n3 c3 l1 l2 zs w h1 h2 h3 hs1 hs2 hs3 (by omega) (by omega) (by omega)
end Go.Proofs.YtgombgkfocpacaaDoor
