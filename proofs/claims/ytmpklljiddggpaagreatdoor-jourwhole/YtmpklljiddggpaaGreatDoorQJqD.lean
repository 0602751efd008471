/-
  The walk of JourWhole. Conditions: each theorem's own premises.
-/
import Derived.Test.YtmpklljiddggpaaGreatDoorQJqC
namespace Go.Proofs.YtmpklljiddggpaaGreatDoor
open Go.Shelf Go.RowKit Go.Lib Go.Sort
attribute [local go_sem] Oper.semAt_some

set_option maxRecDepth 100000 in
set_option maxHeartbeats 8000000 in
theorem jwhole_any (n arm : Int) (A2 : Option Addr) (c2 : Nat) (zs : List Int) (more : Int) (w : World) (aE aS aR aC aF aM : Addr) (he : Errs w aE aS aR) (hE : Es w aR aC aF aM) (hT : Tab w) (hP : Ints w w.heap.size A2 zs) :
    Calls Tryz.prog 4 #[.int .i64 n, .int .i64 arm, .slice A2 zs.length c2, .int .i64 more] w (RetYes w) := by
  have HE := Lib.hid hE
  have He := Lib.hid he
  have HT := Lib.hid hT
  have HP := Lib.hid hP
  have hch := chap_any w _ _ _ _ _ _ He.out HE.out
  clear hE he hT hP
  go_enter Tryz.func4, Tryz.ntmps4
  go_wp2_with fail
  refine hch.mono ?_
  rintro e w1 ⟨rfl, hB1⟩
  have HB1 := Lib.hid hB1
  clear hch hB1
  have hnu := number_any n 20 w1 (by omega) (by omega)
  have hq : 0 ≤ n % 20 ∧ n % 20 < 20 := ⟨Int.emod_nonneg _ (by omega), Int.emod_lt_of_pos _ (by omega)⟩
  go_wp2_with fail
  refine hnu.mono ?_
  rintro e w2 ⟨rfl, rfl⟩
  clear hnu
  obtain ⟨N, hN⟩ : ∃ N : Nat, n % 20 + 1 = (N : Int) := ⟨(n % 20 + 1).toNat, by omega⟩
  have hN1 : 1 ≤ N ∧ N ≤ 20 := by omega
  generalize n % 20 = q at *
  obtain rfl : q = (N : Int) - 1 := by omega
  clear hN hq
  have hnu := number_any more 20 w1 (by omega) (by omega)
  have hq : 0 ≤ more % 20 ∧ more % 20 < 20 := ⟨Int.emod_nonneg _ (by omega), Int.emod_lt_of_pos _ (by omega)⟩
  go_wp2_with fail
  refine hnu.mono ?_
  rintro e w2 ⟨rfl, rfl⟩
  clear hnu
  obtain ⟨M, hM⟩ : ∃ M : Nat, more % 20 + 1 = (M : Int) := ⟨(more % 20 + 1).toNat, by omega⟩
  have hM1 : 1 ≤ M ∧ M ≤ 20 := by omega
  generalize more % 20 = q at *
  obtain rfl : q = (M : Int) - 1 := by omega
  clear hM hq
  by_cases h60 : 60 < zs.length
  · have h60I : (60 : Int) < zs.length := by omega
    go_wp2
    go_ret
    exact ⟨rfl, HB1.out⟩
  have h60I : ¬ (60 : Int) < zs.length := by omega
  have hop := opened_any 2000 w1 _ _ _ _ _ _ (by omega) (by omega) (He.out.below HB1.out (Nat.le_refl _)) (HE.out.fr ((Fr.refl [] w).belows HB1.out (Nat.le_refl _)) (by simp))
  go_wp2_with fail
  refine hop.mono ?_
  intro e w2 h2
  obtain ⟨g, f, m, sb, v, rfl, hSt⟩ := h2.sto HB1.out
  have HF0 := Lib.hid hSt.fst
  have HI0 := Lib.hid hSt.ok.inv
  have HR0 := Lib.hid (show (newSt 2000).r = [] from rfl)
  generalize newSt 2000 = t0 at *
  have hcx := changes_any N 120 w2 (by omega) (HT.out.below hSt.un)
  clear h2 hop hSt HB1
  go_wp2_with fail
  refine hcx.mono ?_
  rintro e w3 ⟨v12, rfl, hO12, hB3⟩
  have HF3 := Lib.hid (HF0.out.below hB3)
  have HO12 := Lib.hid hO12
  have hcy := changes_any M 121 w3 (by omega) (HT.out.below HF3.out.ds.un)
  clear hcx hO12 hB3 HF0
  go_wp2_with fail
  refine hcy.mono ?_
  rintro e w4 ⟨v13, rfl, hO13, hB4⟩
  have HF4 := Lib.hid (HF3.out.below hB4)
  have H14 := Lib.hid (HO12.out.below hB4 (Nat.le_refl _))
  have H24 := Lib.hid hO13
  have hnu := number_any arm 40 w4 (by omega) (by omega)
  have hq : 0 ≤ arm % 40 ∧ arm % 40 < 40 := ⟨Int.emod_nonneg _ (by omega), Int.emod_lt_of_pos _ (by omega)⟩
  clear hcy hO13 hB4 HF3 HO12
  go_wp2_with fail
  refine hnu.mono ?_
  rintro e w5 ⟨rfl, rfl⟩
  clear hnu
  generalize arm % 40 = q1 at *
  have har := HF4.out.arming (q1 + 1)
  go_wp2_with fail
  refine har.mono ?_
  rintro e w6 ⟨rfl, hF6, hS6⟩
  have H16 := Lib.hid (H14.out.fr hF6 (fun q hq hx => HF4.out.jr.apart3 H14.out q hq (by simp at hx; simp [hx])))
  have H26 := Lib.hid (H24.out.fr hF6 (fun q hq hx => HF4.out.jr.apart3 H24.out q hq (by simp at hx; simp [hx])))
  have HI1 : Hid (Inv' ⟨{ t0.s with armed := q1 + 1 }, t0.h, t0.r⟩) := Lib.hid (Inv.arm HI0.out _)
  have HF6 := Lib.hid hS6
  have hau : 0 ≤ (⟨{ t0.s with armed := q1 + 1 }, t0.h, t0.r⟩ : St).s.armed ∧ (⟨{ t0.s with armed := q1 + 1 }, t0.h, t0.r⟩ : St).s.armed ≤ 1000 := by show 0 ≤ q1 + 1 ∧ q1 + 1 ≤ 1000; omega
  have HR1 : Hid ((⟨{ t0.s with armed := q1 + 1 }, t0.h, t0.r⟩ : St).r = []) := HR0
  generalize (⟨{ t0.s with armed := q1 + 1 }, t0.h, t0.r⟩ : St) = t1 at *
  clear har hF6 hS6 HF4 H14 H24 HI0 HR0 hq
  obtain ⟨A12, c12, hv12, hC12, hz12⟩ := H16.out.chs3
  rw [chsW_length] at hv12
  subst hv12
  have hcm := Fst.commit HF6.out HI1.out He.out HE.out (by omega) (by omega) hau hC12 hz12 (by rw [chsW_length]; omega)
  rw [chsW_length] at hcm
  obtain ⟨hs1, hs2⟩ := whole_says HI1.out HR1.out HF6.out.ds.len 120 N (by omega)
  have HSy := Lib.hid hs2
  clear hs2 hC12 hz12
  go_wp2_with fail
  refine hcm.mono ?_
  intro e w7 h7
  obtain ⟨m7, v7, h7, hF7, hS7⟩ := h7
  subst h7
  have hdn := hS7.ds.downs
  have H2x := Lib.hid (H26.out.fr hF7 (HF6.out.jr.apart3 H26.out))
  have HFx := Lib.hid hS7
  clear hF7 hS7 HF6 H16 H26 HI1 HR1 hau
  generalize (comm t1 (chsW 120 N)).2 = t3 at *
  generalize (comm t1 (chsW 120 N)).1 = rs1 at *
  rcases hs1 with ⟨hs1, hs2⟩ | ⟨hs1, hs2⟩
  · subst hs1
    rw [hs2] at hdn HSy
    unfold resV
    clear hcm
    go_wp2_with fail
    refine hdn.mono ?_
    rintro e w20 ⟨rfl, rfl⟩
    have hcr := HFx.out.ds.crashes (c := c2) HP.out
    clear hdn
    go_wp2_with fail
    refine hcr.mono ?_
    rintro e wC ⟨rfl, mC, hFC, hDC⟩
    obtain ⟨h4, r4, hI4, hr4⟩ := HSy.out zs
    have HR4 := Lib.hid hr4
    have H2C := Lib.hid (H2x.out.fr hFC (fun q hq hx => HFx.out.jr.apart3 H2x.out q hq (by simp at hx; rcases hx with rfl | rfl <;> simp)))
    generalize crashD t3.s zs = s4 at *
    have hop := hDC.opens hI4 He.out HE.out (by omega)
    clear hcr hFC hDC HFx HSy hr4
    go_wp2_with fail
    refine hop.mono ?_
    rintro e wO ⟨sbO, vO, rfl, hBO, hFO⟩
    have hIO : Inv' ⟨s4, h4, r4⟩ := hI4
    have hky := hFO.jr.keys hIO
    have hky : Calls Tryz.prog 19 #[.pointer (some ⟨sbO, 0, none⟩)] wO fun e w' => ∃ v, e = .returned v ∧ Ow LT w' wO.heap.size v (keysL r4) ∧ Below wO.heap.size wO w' := hky
    have HFO := Lib.hid hFO
    have HIO := Lib.hid hIO
    have H2O := Lib.hid (H2C.out.below hBO (Nat.le_refl _))
    clear hop hFO hIO hI4 hBO
    go_wp2_with fail
    refine hky.mono ?_
    rintro e wK ⟨vK, rfl, hOK, hBK⟩
    have HOK := Lib.hid hOK
    have HFK := Lib.hid (HFO.out.below hBK)
    have H2K := Lib.hid (H2O.out.below hBK (Nat.le_refl _))
    obtain ⟨AK, cK, hvK, hRK, -⟩ := hOK.rw
    have HRK := Lib.hid hRK
    rw [show (keysL r4).length = r4.length by simp [keysL]] at hvK
    subst hvK
    clear hky hOK hBK HFO hRK
    have hrr : r4 = aft (chsW 120 N) := HR4.out.elim id (fun h => by cases h.1)
    have hkl : r4.length = N := by rw [hrr]; exact chsW_aft 120 N
    rw [hkl]
    have HB9 := Lib.hid HFK.out.ds.un
    clear HFK hkl
    go_wp2
    go_ret
    exact ⟨rfl, HB9.out⟩
  · subst hs1
    rw [hs2] at hdn HSy
    unfold resV
    clear hcm
    go_wp2_with fail
    refine hdn.mono ?_
    rintro e w20 ⟨rfl, rfl⟩
    have hcr := HFx.out.ds.crashes (c := c2) HP.out
    clear hdn
    go_wp2_with fail
    refine hcr.mono ?_
    rintro e wC ⟨rfl, mC, hFC, hDC⟩
    obtain ⟨h4, r4, hI4, hr4⟩ := HSy.out zs
    have HR4 := Lib.hid hr4
    have H2C := Lib.hid (H2x.out.fr hFC (fun q hq hx => HFx.out.jr.apart3 H2x.out q hq (by simp at hx; rcases hx with rfl | rfl <;> simp)))
    generalize crashD t3.s zs = s4 at *
    have hop := hDC.opens hI4 He.out HE.out (by omega)
    clear hcr hFC hDC HFx HSy hr4
    go_wp2_with fail
    refine hop.mono ?_
    rintro e wO ⟨sbO, vO, rfl, hBO, hFO⟩
    have hIO : Inv' ⟨s4, h4, r4⟩ := hI4
    have hky := hFO.jr.keys hIO
    have hky : Calls Tryz.prog 19 #[.pointer (some ⟨sbO, 0, none⟩)] wO fun e w' => ∃ v, e = .returned v ∧ Ow LT w' wO.heap.size v (keysL r4) ∧ Below wO.heap.size wO w' := hky
    have HFO := Lib.hid hFO
    have HIO := Lib.hid hIO
    have H2O := Lib.hid (H2C.out.below hBO (Nat.le_refl _))
    clear hop hFO hIO hI4 hBO
    go_wp2_with fail
    refine hky.mono ?_
    rintro e wK ⟨vK, rfl, hOK, hBK⟩
    have HOK := Lib.hid hOK
    have HFK := Lib.hid (HFO.out.below hBK)
    have H2K := Lib.hid (H2O.out.below hBK (Nat.le_refl _))
    obtain ⟨AK, cK, hvK, hRK, -⟩ := hOK.rw
    have HRK := Lib.hid hRK
    rw [show (keysL r4).length = r4.length by simp [keysL]] at hvK
    subst hvK
    clear hky hOK hBK HFO hRK
    rcases HR4.out with hrr | ⟨_, hrr⟩
    · clear HR4
      have hkl : r4.length = N := by rw [hrr]; exact chsW_aft 120 N
      rw [hkl]
      have HB9 := Lib.hid HFK.out.ds.un
      clear HFK hkl
      go_wp2
      go_ret
      exact ⟨rfl, HB9.out⟩
    · have hkl : r4.length = 0 := by rw [hrr]; rfl
      rw [hkl]
      have hN0 : ¬ (0 : Int) = N := by omega
      clear HR4 hkl
      have hnu := number_any (wrap64 (arm.tdiv 40)) 40 wK (by omega) (by omega)
      have hq : 0 ≤ wrap64 (arm.tdiv 40) % 40 ∧ wrap64 (arm.tdiv 40) % 40 < 40 := ⟨Int.emod_nonneg _ (by omega), Int.emod_lt_of_pos _ (by omega)⟩
      go_wp2_with fail
      refine hnu.mono ?_
      rintro e w21 ⟨rfl, rfl⟩
      clear hnu
      generalize wrap64 (arm.tdiv 40) % 40 = q2 at *
      have har := HFK.out.arming (q2 + 1)
      go_wp2_with fail
      refine har.mono ?_
      rintro e w22 ⟨rfl, hF22, hS22⟩
      have H222 := Lib.hid (H2K.out.fr hF22 (fun q hq hx => HFK.out.jr.apart3 H2K.out q hq (by simp at hx; simp [hx])))
      have HI22 : Hid (Inv' ⟨{ s4 with armed := q2 + 1 }, h4, r4⟩) := Lib.hid (Inv.arm HIO.out _)
      have HF22 := Lib.hid hS22
      have hau2 : 0 ≤ (⟨{ s4 with armed := q2 + 1 }, h4, r4⟩ : St).s.armed ∧ (⟨{ s4 with armed := q2 + 1 }, h4, r4⟩ : St).s.armed ≤ 1000 := by show 0 ≤ q2 + 1 ∧ q2 + 1 ≤ 1000; omega
      have HR22 : Hid ((⟨{ s4 with armed := q2 + 1 }, h4, r4⟩ : St).r = []) := Lib.hid hrr
      have HF22 : Hid (Fst w w22 2000 2003 g f mC sbO vO ⟨{ s4 with armed := q2 + 1 }, h4, r4⟩) := HF22
      generalize (⟨{ s4 with armed := q2 + 1 }, h4, r4⟩ : St) = t5 at *
      clear har hF22 hS22 HFK HIO HRK HOK H2K hq
      have hws := HF22.out.ds.un.size
      obtain ⟨A13, c13, hv13, hC13, hz13⟩ := H222.out.chs3
      rw [chsW_length] at hv13
      subst hv13
      have hcm := Fst.commit HF22.out HI22.out He.out HE.out (by omega) (by omega) hau2 hC13 hz13 (by rw [chsW_length]; omega)
      rw [chsW_length] at hcm
      obtain ⟨hs1, hs2⟩ := whole_says HI22.out HR22.out HF22.out.ds.len 121 M (by omega)
      have HSy := Lib.hid hs2
      clear hs2 hC13 hz13
      go_wp2_with fail
      refine hcm.mono ?_
      intro e w23 h23
      obtain ⟨m23, v23, h23, hF23, hS23⟩ := h23
      subst h23
      have hdn := hS23.ds.downs
      have HFx := Lib.hid hS23
      clear hF23 hS23 HF22 H222 HI22 HR22 hau2
      generalize (comm t5 (chsW 121 M)).2 = t6 at *
      generalize (comm t5 (chsW 121 M)).1 = rs5 at *
      rcases hs1 with ⟨hs1, hs2⟩ | ⟨hs1, hs2⟩
      · subst hs1
        rw [hs2] at hdn HSy
        unfold resV
        clear hcm
        go_wp2_with fail
        refine hdn.mono ?_
        rintro e w30 ⟨rfl, rfl⟩
        have hcr := HFx.out.ds.crashes (c := c2) HP.out
        clear hdn
        go_wp2_with fail
        refine hcr.mono ?_
        rintro e wD ⟨rfl, mD, hFD, hDD⟩
        obtain ⟨h6, r6, hI6, hr6⟩ := HSy.out zs
        have HR6 := Lib.hid hr6
        generalize crashD t6.s zs = s6 at *
        have hop := hDD.opens hI6 He.out HE.out (by omega)
        clear hcr hFD hDD HFx HSy hr6
        go_wp2_with fail
        refine hop.mono ?_
        rintro e wP ⟨sbP, vP, rfl, hBP, hFP⟩
        have hIP : Inv' ⟨s6, h6, r6⟩ := hI6
        have hky := hFP.jr.keys hIP
        have hky : Calls Tryz.prog 19 #[.pointer (some ⟨sbP, 0, none⟩)] wP fun e w' => ∃ v, e = .returned v ∧ Ow LT w' wP.heap.size v (keysL r6) ∧ Below wP.heap.size wP w' := hky
        have HFP := Lib.hid hFP
        have HIP := Lib.hid hIP
        clear hop hFP hIP hI6 hBP
        go_wp2_with fail
        refine hky.mono ?_
        rintro e wL ⟨vL, rfl, hOL, hBL⟩
        have HOL := Lib.hid hOL
        have HFL := Lib.hid (HFP.out.below hBL)
        obtain ⟨AL, cL, hvL, hRL, -⟩ := hOL.rw
        have HRL := Lib.hid hRL
        rw [show (keysL r6).length = r6.length by simp [keysL]] at hvL
        subst hvL
        clear hky hOL hBL HFP hRL
        have hrr6 : r6 = aft (chsW 121 M) := HR6.out.elim id (fun h => by cases h.1)
        have hkl : r6.length = M := by rw [hrr6]; exact chsW_aft 121 M
        have HVl : Hid (∀ x ∈ r6, ∃ rs, x.val = 121 :: rs) := Lib.hid fun x hx => chsW_val (n := M) (by rw [← hrr6]; exact hx)
        have hklI : (r6.length : Int) = M := by omega
        clear HR6 hrr6 hs2
        go_wp2
        go_loopg [22, 23, 24] r6.length (fun ky s22 _ _ wq => ∃ k : Nat, s22 = .int .i64 k ∧ k ≤ r6.length ∧ r6.length - k ≤ ky ∧ Hid (Below wL.heap.size wL wq))
        case atStart => exact ⟨0, rfl, by omega, by omega, Lib.hid (Below.refl _ _)⟩
        case round =>
          obtain ⟨k, rfl, hkn, hky, HBq⟩ := hrel
          by_cases hk : k < r6.length
          · have hkI : (k : Int) < r6.length := by omega
            have hkK : k < (keysL r6).length := by unfold keysL; rw [List.length_map]; exact hk
            obtain ⟨adk, rfl, _, rk⟩ := (HRL.out.below HBq.out).pick hkK
            have q0 : wr.cell? (adk.add (k * 1)) = some (.string ⟨r6[k].key.toArray⟩) := by
              have := rk 0 (txt (keysL r6)[k]) rfl
              rw [keysL_at r6 k hk] at this
              exact this
            rw [Nat.mul_one] at q0
            have hF9 := HFL.out.below HBq.out
            have hgt := hF9.jr.get HIP.out r6[k].key
            obtain ⟨g1, g2⟩ := get_at (r := r6) HIP.out.recs.1 hk rfl
            unfold RetGet at hgt
            have hgt : Calls Tryz.prog 20 #[.pointer (some ⟨sbP, 0, none⟩), .string ⟨r6[k].key.toArray⟩] wr fun e w' => e = .returned (.tuple #[.string ⟨(getV r6[k].key r6).toArray⟩, .bool (getB r6[k].key r6)]) ∧ Below wr.heap.size wr w' := hgt
            rw [g1, g2] at hgt
            obtain ⟨rs, hrs⟩ := HVl.out r6[k] (List.getElem_mem hk)
            rw [hrs] at hgt
            have hex : (⟨((121 : UInt8) :: rs).toArray⟩ : ByteArray).extract 0 1 = ⟨#[121]⟩ := by
              apply ByteArray.ext
              simp
            have hsz : ¬ ((rs.length : Int) + 1 < 1) := by omega
            generalize r6[k].key = xk at *
            clear rk g1 g2 hrs hF9
            go_wp2_with fail
            refine hgt.mono ?_
            rintro e w9 ⟨rfl, hB9⟩
            have HB9 := Lib.hid (HBq.out.trans (hB9.mono HBq.out.size))
            clear hgt hB9 HBq q0
            go_wp2
            go_roundg (r6.length - (k + 1))
            case measure => omega
            case rel => exact ⟨k + 1, by go_num, by omega, Nat.le_refl _, HB9⟩
          · have hkI : ¬ (k : Int) < r6.length := by omega
            have HB9 := Lib.hid (HFL.out.ds.un.trans (HBq.out.mono HFL.out.ds.un.size))
            go_wp2
            go_ret
            exact ⟨rfl, HB9.out⟩
      · subst hs1
        rw [hs2] at hdn HSy
        unfold resV
        clear hcm
        go_wp2_with fail
        refine hdn.mono ?_
        rintro e w30 ⟨rfl, rfl⟩
        have hcr := HFx.out.ds.crashes (c := c2) HP.out
        clear hdn
        go_wp2_with fail
        refine hcr.mono ?_
        rintro e wD ⟨rfl, mD, hFD, hDD⟩
        obtain ⟨h6, r6, hI6, hr6⟩ := HSy.out zs
        have HR6 := Lib.hid hr6
        generalize crashD t6.s zs = s6 at *
        have hop := hDD.opens hI6 He.out HE.out (by omega)
        clear hcr hFD hDD HFx HSy hr6
        go_wp2_with fail
        refine hop.mono ?_
        rintro e wP ⟨sbP, vP, rfl, hBP, hFP⟩
        have hIP : Inv' ⟨s6, h6, r6⟩ := hI6
        have hky := hFP.jr.keys hIP
        have hky : Calls Tryz.prog 19 #[.pointer (some ⟨sbP, 0, none⟩)] wP fun e w' => ∃ v, e = .returned v ∧ Ow LT w' wP.heap.size v (keysL r6) ∧ Below wP.heap.size wP w' := hky
        have HFP := Lib.hid hFP
        have HIP := Lib.hid hIP
        clear hop hFP hIP hI6 hBP
        go_wp2_with fail
        refine hky.mono ?_
        rintro e wL ⟨vL, rfl, hOL, hBL⟩
        have HOL := Lib.hid hOL
        have HFL := Lib.hid (HFP.out.below hBL)
        obtain ⟨AL, cL, hvL, hRL, -⟩ := hOL.rw
        have HRL := Lib.hid hRL
        rw [show (keysL r6).length = r6.length by simp [keysL]] at hvL
        subst hvL
        clear hky hOL hBL HFP hRL
        rcases HR6.out with hrr6 | ⟨_, hrr6⟩
        · have hkl : r6.length = M := by rw [hrr6]; exact chsW_aft 121 M
          have HVl : Hid (∀ x ∈ r6, ∃ rs, x.val = 121 :: rs) := Lib.hid fun x hx => chsW_val (n := M) (by rw [← hrr6]; exact hx)
          have hklI : (r6.length : Int) = M := by omega
          clear HR6 hrr6 hs2
          go_wp2
          go_loopg [22, 23, 24] r6.length (fun ky s22 _ _ wq => ∃ k : Nat, s22 = .int .i64 k ∧ k ≤ r6.length ∧ r6.length - k ≤ ky ∧ Hid (Below wL.heap.size wL wq))
          case atStart => exact ⟨0, rfl, by omega, by omega, Lib.hid (Below.refl _ _)⟩
          case round =>
            obtain ⟨k, rfl, hkn, hky, HBq⟩ := hrel
            by_cases hk : k < r6.length
            · have hkI : (k : Int) < r6.length := by omega
              have hkK : k < (keysL r6).length := by unfold keysL; rw [List.length_map]; exact hk
              obtain ⟨adk, rfl, _, rk⟩ := (HRL.out.below HBq.out).pick hkK
              have q0 : wr.cell? (adk.add (k * 1)) = some (.string ⟨r6[k].key.toArray⟩) := by
                have := rk 0 (txt (keysL r6)[k]) rfl
                rw [keysL_at r6 k hk] at this
                exact this
              rw [Nat.mul_one] at q0
              have hF9 := HFL.out.below HBq.out
              have hgt := hF9.jr.get HIP.out r6[k].key
              obtain ⟨g1, g2⟩ := get_at (r := r6) HIP.out.recs.1 hk rfl
              unfold RetGet at hgt
              have hgt : Calls Tryz.prog 20 #[.pointer (some ⟨sbP, 0, none⟩), .string ⟨r6[k].key.toArray⟩] wr fun e w' => e = .returned (.tuple #[.string ⟨(getV r6[k].key r6).toArray⟩, .bool (getB r6[k].key r6)]) ∧ Below wr.heap.size wr w' := hgt
              rw [g1, g2] at hgt
              obtain ⟨rs, hrs⟩ := HVl.out r6[k] (List.getElem_mem hk)
              rw [hrs] at hgt
              have hex : (⟨((121 : UInt8) :: rs).toArray⟩ : ByteArray).extract 0 1 = ⟨#[121]⟩ := by
                apply ByteArray.ext
                simp
              have hsz : ¬ ((rs.length : Int) + 1 < 1) := by omega
              generalize r6[k].key = xk at *
              clear rk g1 g2 hrs hF9
              go_wp2_with fail
              refine hgt.mono ?_
              rintro e w9 ⟨rfl, hB9⟩
              have HB9 := Lib.hid (HBq.out.trans (hB9.mono HBq.out.size))
              clear hgt hB9 HBq q0
              go_wp2
              go_roundg (r6.length - (k + 1))
              case measure => omega
              case rel => exact ⟨k + 1, by go_num, by omega, Nat.le_refl _, HB9⟩
            · have hkI : ¬ (k : Int) < r6.length := by omega
              have HB9 := Lib.hid (HFL.out.ds.un.trans (HBq.out.mono HFL.out.ds.un.size))
              go_wp2
              go_ret
              exact ⟨rfl, HB9.out⟩
        · have hkl : r6.length = 0 := by rw [hrr6]; rfl
          have hklI : (r6.length : Int) = 0 := by omega
          have hM0 : ¬ (0 : Int) = M := by omega
          clear HR6 hrr6 hs2
          go_wp2
          go_loopg [22, 23, 24] r6.length (fun ky s22 _ _ wq => ∃ k : Nat, s22 = .int .i64 k ∧ k ≤ r6.length ∧ r6.length - k ≤ ky ∧ Hid (Below wL.heap.size wL wq))
          case atStart => exact ⟨0, rfl, by omega, by omega, Lib.hid (Below.refl _ _)⟩
          case round =>
            obtain ⟨k, rfl, hkn, hky, HBq⟩ := hrel
            have hkI : ¬ (k : Int) < r6.length := by omega
            have HB9 := Lib.hid (HFL.out.ds.un.trans (HBq.out.mono HFL.out.ds.un.size))
            go_wp2
            go_ret
            exact ⟨rfl, HB9.out⟩
end Go.Proofs.YtmpklljiddggpaaGreatDoor
