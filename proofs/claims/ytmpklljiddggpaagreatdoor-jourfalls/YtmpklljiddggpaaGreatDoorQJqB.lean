/-
  The walk of JourFalls. Conditions: each theorem's own premises.
-/
import Derived.Test.YtmpklljiddggpaaGreatDoorQJqA
import Derived.Test.YtmpklljiddggpaaGreatDoorQJpP
namespace Go.Proofs.YtmpklljiddggpaaGreatDoor
open Go.Shelf Go.RowKit Go.Lib Go.Sort
attribute [local go_sem] Oper.semAt_some

/-- Where JourFalls's loop stands. -/
def FallI (w0 : World) (i g f : Nat) (s8 s10 : Value) (wr : World) : Prop :=
  ∃ m sb v t K, s8 = .pointer (some ⟨sb, 0, none⟩) ∧ Fst w0 wr 4096 K g f m sb v t ∧ Inv' t ∧ t.s.armed = 0 ∧ Ow LC wr w0.heap.size s10 t.r ∧ K ≤ i * 4099 ∧ Vals 400 t.r

set_option maxRecDepth 100000 in
set_option maxHeartbeats 8000000 in
theorem jfalls_any (a : Option Addr) (c : Nat) (L : List DoJ) (A1 : Option Addr) (c1 : Nat) (arms : List Int) (A2 : Option Addr) (c2 : Nat) (zs : List Int) (w : World) (ads : List Addr) (hS : Sents w ads) (hD : Djs w w.heap.size a L) (hA : Ints w w.heap.size A1 arms) (hP : Ints w w.heap.size A2 zs) :
    Calls Tryz.prog 3 #[.slice a L.length c, .slice A1 arms.length c1, .slice A2 zs.length c2] w (RetYes w) := by
  have HE := Lib.hid (es_of hS)
  have He := Lib.hid (errs_of hS)
  have HS := Lib.hid hS
  have HD := Lib.hid hD
  have HA := Lib.hid hA
  have HP := Lib.hid hP
  have hch := chap_any w _ _ _ _ _ _ He.out HE.out
  clear hS hD hA hP
  go_enter Tryz.func3, Tryz.ntmps3
  go_wp2_with fail
  refine hch.mono ?_
  rintro e w1 ⟨rfl, hB1⟩
  have HB1 := Lib.hid hB1
  have HD1 := Lib.hid (HD.out.below hB1)
  have hli := light_any a c L 25 400 w1 ⟨fun hn => by obtain ⟨ad, h1, h2, h3⟩ := HD1.out.here hn; exact ⟨ad, h1, Nat.lt_of_lt_of_le h2 hB1.size, h3⟩, fun t ht => ⟨(HD1.out.each t ht).1.more hB1.size, (HD1.out.each t ht).2⟩⟩ (by omega)
  clear hch hB1
  go_wp2_with fail
  refine hli.mono ?_
  rintro e w2 ⟨b2, rfl, hb2, rfl⟩
  clear hli
  cases b2
  · clear hb2
    go_wp2
    go_ret
    exact ⟨rfl, HB1.out⟩
  have HLi := Lib.hid (hb2 rfl)
  have h25 := (hb2 rfl).few
  clear hb2
  by_cases ha25 : 25 < arms.length
  · have haI : (25 : Int) < arms.length := by omega
    go_wp2
    go_ret
    exact ⟨rfl, HB1.out⟩
  have haI : ¬ (25 : Int) < arms.length := by omega
  by_cases hz12 : 12 < zs.length
  · have hzI : (12 : Int) < zs.length := by omega
    go_wp2
    go_ret
    exact ⟨rfl, HB1.out⟩
  have hzI : ¬ (12 : Int) < zs.length := by omega
  have hop := opened_any 4096 w2 _ _ _ _ _ _ (by omega) (by omega) (He.out.below HB1.out (Nat.le_refl _)) (HE.out.fr ((Fr.refl [] w).belows HB1.out (Nat.le_refl _)) (by simp))
  go_wp2_with fail
  refine hop.mono ?_
  intro e w3 h3
  obtain ⟨g, f, m, sb, v, rfl, hSt⟩ := h3.sto HB1.out
  have HS0 : Hid (FallI w 0 g f (.pointer (some ⟨sb, 0, none⟩)) (.slice none 0 0) w3) := Lib.hid ⟨m, sb, v, newSt 4096, 0, rfl, hSt.fst, hSt.ok.inv, hSt.ok.arm, Ow.nil _ _ _, Nat.zero_le _, fun c hc => by cases hc⟩
  clear h3 hop hSt HB1 HD1
  go_wp2
  go_loopg [8, 10, 11, 12, 13, 14, 15, 16, 17] L.length (fun kx s8 s10 s11 _ _ _ _ _ _ wr => ∃ i : Nat, s11 = .int .i64 i ∧ i ≤ L.length ∧ L.length - i ≤ kx ∧ Hid (FallI w i g f s8 s10 wr))
  case atStart => exact ⟨0, rfl, by omega, by omega, HS0⟩
  case round =>
    clear HS0
    obtain ⟨i, rfl, hin, hix, HR⟩ := hrel
    obtain ⟨m1, sb1, v1, t1, K1, rfl, hS1, hI1, ha1, hO1, hK1, hV1⟩ := HR.out
    have HS1 := Lib.hid hS1
    have HI1 := Lib.hid hI1
    have HO1 := Lib.hid hO1
    have HV0 := Lib.hid hV1
    have hKn : K1 < 1000000 := by
      have : i * 4099 ≤ 25 * 4099 := Nat.mul_le_mul_right _ (by omega)
      omega
    have HK1 := Lib.hid hK1
    clear HR hS1 hO1 hK1 hV1 hI1
    by_cases hlt : i < L.length
    · have hltI : (i : Int) < L.length := by omega
      by_cases hia : i < arms.length
      · have hiaI : (i : Int) < arms.length := by omega
        obtain ⟨ada, rfl, hba, pa⟩ := (HA.out.keep (w' := wr) fun p _ hp => HS1.out.ds.un.cell hp).pick hia
        generalize arms[i] = z at pa
        have hnu := number_any z 24 wr (by omega) (by omega)
        have hq : 0 ≤ z % 24 ∧ z % 24 < 24 := ⟨Int.emod_nonneg _ (by omega), Int.emod_lt_of_pos _ (by omega)⟩
        have har := HS1.out.arming (z % 24)
        go_wp2_with fail
        refine hnu.mono ?_
        rintro e wx ⟨rfl, rfl⟩
        clear hnu pa
        go_wp2_with fail
        refine har.mono ?_
        rintro e wX ⟨rfl, hFX, hSX⟩
        have HO2 := Lib.hid (HO1.out.fr hFX (fun q hq hx => HS1.out.jr.apart HO1.out q hq (by simp at hx; simp [hx])))
        have HI2 : Hid (Inv' ⟨{ t1.s with armed := z % 24 }, t1.h, t1.r⟩) := Lib.hid (Inv.arm HI1.out _)
        have HFs := Lib.hid hSX
        have hau : 0 ≤ (⟨{ t1.s with armed := z % 24 }, t1.h, t1.r⟩ : St).s.armed ∧ (⟨{ t1.s with armed := z % 24 }, t1.h, t1.r⟩ : St).s.armed ≤ 1000 := by show 0 ≤ z % 24 ∧ z % 24 ≤ 1000; omega
        have HV1 : Hid (Vals 400 (⟨{ t1.s with armed := z % 24 }, t1.h, t1.r⟩ : St).r) := HV0
        have HO2 : Hid (Ow LC wX w.heap.size u10 (⟨{ t1.s with armed := z % 24 }, t1.h, t1.r⟩ : St).r) := HO2
        generalize (⟨{ t1.s with armed := z % 24 }, t1.h, t1.r⟩ : St) = t2 at *
        clear har hFX hSX HS1 HO1 HI1 HV0 hq ha1
        obtain ⟨ad, rfl, hbl, p0, p1, hC, hz⟩ := (HD.out.below HFs.out.ds.un).pick hlt
        have hlx := HLi.out.each i hlt
        generalize L[i] = x at p0 p1 hC hz hlx
        obtain ⟨xk, xA, xc, xl⟩ := x
        simp only at p0 p1 hC hz hlx
        have HC := Lib.hid hC
        have HZ := Lib.hid hz
        have hl8 := hlx.1
        have HVl : Hid (Vals 400 xl) := Lib.hid fun y hy => by
          obtain ⟨j, hj, rfl⟩ := List.mem_iff_getElem.1 hy
          exact (hlx.2 j hj).2
        clear hC hz hlx
        by_cases hk1 : xk = 1
        · subst hk1
          have haf := after_rec w.heap.size u10 t2.r xA xc xl wX HO2.out HI2.out.recs (HC.out.more HFs.out.ds.un.size) (by omega) (by have := HI2.out.few; omega) HFs.out.ds.un.size
          go_wp2_with fail
          refine haf.mono ?_
          rintro e w4 ⟨v4, rfl, hO4, hB4⟩
          have p4 := cell_below p1 hB4 (Nat.le_refl _)
          have HF4 := Lib.hid (HFs.out.below hB4)
          have HO4 := Lib.hid hO4
          have HE4 := Lib.hid (HO2.out.below hB4 (Nat.le_refl _))
          have hcm := Fst.commit HF4.out HI2.out He.out HE.out (by omega) (by omega) hau ((HC.out.below (hB4.mono HFs.out.ds.un.size)).more (Nat.le_trans HFs.out.ds.un.size hB4.size)) HZ.out (by omega)
          have HCf := Lib.hid (comm_falls HI2.out HFs.out.ds.len (by omega) (b := 400) (by omega) HV1.out HVl.out)
          have HVn := Lib.hid (HV1.out.aftR HVl.out)
          have HVo := HV1
          have HGn : Hid (∀ c ∈ aftR t2.r xl, c.gone = false) := Lib.hid (aftR_recs HI2.out.recs xl).2
          have HLn : Hid ((aftR t2.r xl).length ≤ 1000) := Lib.hid (by
            have h1 := aft_length (t2.r ++ xl)
            rw [List.length_append] at h1
            have h2 := HI2.out.few
            unfold aftR
            split
            · omega
            · split
              · omega
              · split
                · omega
                · omega)
          clear haf hO4 hB4 HFs HO2 p0 p1
          go_wp2_with fail
          refine hcm.mono ?_
          intro e w5 h5
          obtain ⟨m5, v5, h5, hF5, hS5⟩ := h5
          subst h5
          have hN5 := HO4.out.past HF4.out.jr hF5
          have hE5 := HE4.out.past HF4.out.jr hF5
          have hdn := hS5.ds.downs
          clear hcm hF5 HF4 HO4 HE4 p4
          by_cases hcr : (comm t2 xl).1 = .crash
          · have HDx := Lib.hid (HCf.out.2 hcr).1
            have HCx := Lib.hid (HCf.out.2 hcr).2
            rw [hcr]
            rw [HDx.out] at hdn
            have HFx := Lib.hid hS5
            have HNx := Lib.hid hN5
            have HOx := Lib.hid hE5
            generalize (comm t2 xl).2 = t3 at *
            generalize hrn : aftR t2.r xl = rn at *
            clear hS5 hN5 hE5 hcr HCf hrn
            unfold resV
            go_wp2_with fail
            refine hdn.mono ?_
            rintro e w19 ⟨rfl, rfl⟩
            clear hdn
            have hdn := HFx.out.ds.downs
            rw [HDx.out] at hdn
            have his := is_res _ ads .crash (HS.out.later HFx.out.ds.un)
            unfold resV codeR at his
            go_wp2_with fail
            refine hdn.mono ?_
            rintro e w20 ⟨rfl, rfl⟩
            clear hdn
            go_wp2_with fail
            refine his.mono ?_
            rintro e w21 ⟨rfl, hB21⟩
            have HAp := Lib.hid (HFx.out.jr.apart HNx.out)
            have HAo := Lib.hid (HFx.out.jr.apart HOx.out)
            have hD21 := HFx.out.ds.below hB21
            have HN21 := Lib.hid (HNx.out.below hB21 (Nat.le_refl _))
            have HO21 := Lib.hid (HOx.out.below hB21 (Nat.le_refl _))
            have hcr := hD21.crashes (c := c2) HP.out
            clear his hB21 hD21 HFx HNx HOx
            go_wp2_with fail
            refine hcr.mono ?_
            rintro e w22 ⟨rfl, m22, hF22, hD22⟩
            have HN22 := Lib.hid (HN21.out.fr hF22 (fun q hq hx => HAp.out q hq (by simp at hx; rcases hx with rfl | rfl <;> simp)))
            have HO22 := Lib.hid (HO21.out.fr hF22 (fun q hq hx => HAo.out q hq (by simp at hx; rcases hx with rfl | rfl <;> simp)))
            have HD22 := Lib.hid hD22
            obtain ⟨r4, h4, hI4, hr4⟩ : ∃ r4 h4, Inv (crashD t3.s zs) h4 r4 ∧ (r4 = t2.r ∨ r4 = rn) := by
              rcases HCx.out zs with ⟨h', h⟩ | ⟨h', h⟩
              · exact ⟨_, h', h, .inl rfl⟩
              · exact ⟨_, h', h, .inr rfl⟩
            have HI4 := Lib.hid hI4
            have HR4 := Lib.hid hr4
            generalize crashD t3.s zs = s4 at *
            clear hcr hF22 hD22 hI4 hr4 HN21 HO21 HCx
            go_wp2_with fail
            refine (HD22.out.arming _).mono ?_
            rintro e w23 ⟨rfl, hF23, hD23⟩
            have HN23 := Lib.hid (HN22.out.fr hF23 (fun q hq hx => HAp.out q hq (by simp at hx; simp [hx])))
            have HO23 := Lib.hid (HO22.out.fr hF23 (fun q hq hx => HAo.out q hq (by simp at hx; simp [hx])))
            have HI5 := Lib.hid (inv_crash (HI4.out.arm (1 + (i : Int) % 4)) zs)
            have hop := hD23.opens (HI4.out.arm _) He.out HE.out (by omega)
            have HD23 := Lib.hid hD23
            clear hF23 hD23 HD22 HN22 HO22 HI4
            go_wp2_with fail
            refine hop.mono ?_
            rintro e w24 ⟨sb24, v24, rfl, hB24, _⟩
            have hD24 := HD23.out.below hB24
            have HN24 := Lib.hid (HN23.out.below hB24 (Nat.le_refl _))
            have HO24 := Lib.hid (HO23.out.below hB24 (Nat.le_refl _))
            have hcr := hD24.crashes (c := c2) HP.out
            clear hop hB24 hD24 HD23 HN23 HO23
            go_wp2_with fail
            refine hcr.mono ?_
            rintro e w25 ⟨rfl, m25, hF25, hD25⟩
            have HN25 := Lib.hid (HN24.out.fr hF25 (fun q hq hx => HAp.out q hq (by simp at hx; rcases hx with rfl | rfl <;> simp)))
            have HO25 := Lib.hid (HO24.out.fr hF25 (fun q hq hx => HAo.out q hq (by simp at hx; rcases hx with rfl | rfl <;> simp)))
            have HA5 : Hid ((crashD { s4 with armed := 1 + (i : Int) % 4 } zs).armed = 0) := Lib.hid rfl
            generalize crashD { s4 with armed := 1 + (i : Int) % 4 } zs = s5 at *
            have hop := hD25.opens HI5.out He.out HE.out (by omega)
            clear hcr hF25 hD25 HN24 HO24
            go_wp2_with fail
            refine hop.mono ?_
            rintro e w26 ⟨sb26, v26, rfl, hB26, hF26⟩
            have hI26 : Inv' ⟨s5, h4, r4⟩ := HI5.out
            have hN26 := HN25.out.below hB26 (Nat.le_refl _)
            have hsm := same_any _ g f _ sb26 v26 ⟨s5, h4, r4⟩ _ _ rn w26 hF26.jr hI26 hN26 HGn.out (by have := HLn.out; omega)
            have HF26 := Lib.hid hF26
            have HI26 := Lib.hid hI26
            have HN26 := Lib.hid hN26
            have HO26 := Lib.hid (HO25.out.below hB26 (Nat.le_refl _))
            clear hop hB26 hF26 hI26 hN26 HN25 HO25 HI5
            go_wp2_with fail
            refine hsm.mono ?_
            rintro e w27 ⟨b27, rfl, hb27, hB27⟩
            have hb27 : b27 = true ↔ r4 = rn := hb27
            have HF27 := Lib.hid (HF26.out.below hB27)
            have HN27 := Lib.hid (HN26.out.below hB27 (Nat.le_refl _))
            have hO27 := HO26.out.below hB27 (Nat.le_refl _)
            clear hsm hB27 HF26 HN26 HO26
            cases b27
            · have hne : r4 ≠ rn := fun h => by have := hb27.2 h; cases this
              obtain rfl : r4 = t2.r := HR4.out.resolve_right hne
              have hsm := same_any _ g f _ sb26 v26 ⟨s5, h4, t2.r⟩ _ _ t2.r w27 HF27.out.jr HI26.out hO27 (fun c hc => HI26.out.recs.2 c hc) (by have := HI26.out.few; have h2 : (t2.r).length ≤ 256 := this; omega)
              have HO27 := Lib.hid hO27
              clear hO27 hb27 hne HR4
              go_wp2_with fail
              refine hsm.mono ?_
              rintro e w28 ⟨b28, rfl, hb28, hB28⟩
              obtain rfl : b28 = true := hb28.2 rfl
              have HF28 := Lib.hid (HF27.out.below hB28)
              have HO28 := Lib.hid (HO27.out.below hB28 (Nat.le_refl _))
              clear hsm hb28 hB28 HF27 HO27 HN27
              go_wp2
              go_roundg (L.length - (i + 1))
              case measure => omega
              case rel => exact ⟨i + 1, by go_num, by omega, Nat.le_refl _, Lib.hid ⟨_, _, _, _, _, rfl, HF28.out, HI26.out, HA5.out, HO28.out, by have := HK1.out; rw [Nat.succ_mul]; omega, HVo.out⟩⟩
            · obtain rfl : r4 = rn := hb27.1 rfl
              clear hb27 hO27 HR4
              go_wp2
              go_roundg (L.length - (i + 1))
              case measure => omega
              case rel => exact ⟨i + 1, by go_num, by omega, Nat.le_refl _, Lib.hid ⟨_, _, _, _, _, rfl, HF27.out, HI26.out, HA5.out, HN27.out, by have := HK1.out; rw [Nat.succ_mul]; omega, HVn.out⟩⟩
          · obtain ⟨c1, c2', c3⟩ := HCf.out.1 hcr
            have his := is_res w5 ads (comm t2 xl).1 (HS.out.later hS5.ds.un)
            rw [c1] at his
            rw [← c2'] at hN5 HVn
            rw [show (comm t2 xl).2.s.down = false from c3.down] at hdn
            have HFx0 := Lib.hid hS5
            have HNx0 := Lib.hid hN5
            have HIx := Lib.hid c3
            have HVx := HVn
            generalize (comm t2 xl).2 = t3 at *
            generalize (comm t2 xl).1 = rs at *
            generalize aftN t2.r xl = an at *
            clear hS5 hN5 hE5 hcr HCf c1 c2' c3
            go_wp2_with fail
            refine hdn.mono ?_
            rintro e w19 ⟨rfl, rfl⟩
            clear hdn
            go_wp2_with fail
            refine his.mono ?_
            rintro e w18 ⟨rfl, hB18⟩
            have HFx := Lib.hid (HFx0.out.below hB18)
            have HNx := Lib.hid (HNx0.out.below hB18 (Nat.le_refl _))
            clear his hB18 HFx0 HNx0
            have hdn := HFx.out.ds.downs
            rw [show t3.s.down = false from HIx.out.down] at hdn
            go_wp2_with fail
            refine hdn.mono ?_
            rintro e w20 ⟨rfl, rfl⟩
            have har := HFx.out.arming 0
            clear hdn
            go_wp2_with fail
            refine har.mono ?_
            rintro e w21 ⟨rfl, hF21, hS21⟩
            have hO21 := HNx.out.fr hF21 (fun q hq hx => HFx.out.jr.apart HNx.out q hq (by simp at hx; simp [hx]))
            have hI21 : Inv' ⟨{ t3.s with armed := 0 }, t3.h, t3.r⟩ := Inv.arm HIx.out 0
            have hsm := same_any _ g f _ _ _ ⟨{ t3.s with armed := 0 }, t3.h, t3.r⟩ _ _ t3.r w21 hS21.jr hI21 hO21 (fun c hc => hI21.recs.2 c hc) (by have := hI21.few; show t3.r.length ≤ _; have h2 : t3.r.length ≤ 256 := this; omega)
            have HS21 := Lib.hid hS21
            have HO21 := Lib.hid hO21
            have HI21 := Lib.hid hI21
            clear har hF21 hS21 hO21 hI21 HFx HNx HIx
            go_wp2_with fail
            refine hsm.mono ?_
            rintro e w22 ⟨b22, rfl, hb22, hB22⟩
            obtain rfl : b22 = true := hb22.2 rfl
            have HS22 := Lib.hid (HS21.out.below hB22)
            have HO22 := Lib.hid (HO21.out.below hB22 (Nat.le_refl _))
            clear hsm hb22 hB22 HS21 HO21
            go_wp2
            go_roundg (L.length - (i + 1))
            case measure => omega
            case rel => exact ⟨i + 1, by go_num, by omega, Nat.le_refl _, Lib.hid ⟨_, _, _, _, _, rfl, HS22.out, HI21.out, rfl, HO22.out, by have := HK1.out; rw [Nat.succ_mul]; omega, HVx.out⟩⟩
        by_cases hk2 : xk = 2
        · subst hk2
          have hcm := Fst.compact HFs.out HI2.out He.out HE.out (by omega) (by omega) hau
          have HCf := Lib.hid (rewr_falls HI2.out HFs.out.ds.len (by omega) (b := 400) (by omega) HV1.out)
          clear p1
          go_wp2_with fail
          refine hcm.mono ?_
          intro e w5 h5
          obtain ⟨m5, v5, h5, hF5, hS5⟩ := h5
          subst h5
          have hE5 := HO2.out.past HFs.out.jr hF5
          clear hcm hF5 HFs HO2 p0
          by_cases hcr : (rewr t2 t2.r).1 = .crash
          · have HDx := Lib.hid (HCf.out.2 hcr).1
            have HCx : Hid (∀ zs, (∃ h', Inv (crashD (rewr t2 t2.r).2.s zs) h' t2.r) ∨ ∃ h', Inv (crashD (rewr t2 t2.r).2.s zs) h' t2.r) := Lib.hid fun zs => .inl ((HCf.out.2 hcr).2 zs)
            rw [hcr]
            have HFx := Lib.hid hS5
            have HNx := Lib.hid hE5
            have HOx := Lib.hid hE5
            have HVn := HV1
            have HVo := HV1
            have HGn : Hid (∀ c ∈ t2.r, c.gone = false) := Lib.hid HI2.out.recs.2
            have HLn : Hid (t2.r.length ≤ 1000) := Lib.hid (by have := HI2.out.few; omega)
            generalize (rewr t2 t2.r).2 = t3 at *
            clear hS5 hE5 hcr HCf
            unfold resV
            have hdn := HFx.out.ds.downs
            rw [HDx.out] at hdn
            have his := is_res _ ads .crash (HS.out.later HFx.out.ds.un)
            unfold resV codeR at his
            go_wp2_with fail
            refine hdn.mono ?_
            rintro e w20 ⟨rfl, rfl⟩
            clear hdn
            go_wp2_with fail
            refine his.mono ?_
            rintro e w21 ⟨rfl, hB21⟩
            have HAp := Lib.hid (HFx.out.jr.apart HNx.out)
            have HAo := Lib.hid (HFx.out.jr.apart HOx.out)
            have hD21 := HFx.out.ds.below hB21
            have HN21 := Lib.hid (HNx.out.below hB21 (Nat.le_refl _))
            have HO21 := Lib.hid (HOx.out.below hB21 (Nat.le_refl _))
            have hcr := hD21.crashes (c := c2) HP.out
            clear his hB21 hD21 HFx HNx HOx
            go_wp2_with fail
            refine hcr.mono ?_
            rintro e w22 ⟨rfl, m22, hF22, hD22⟩
            have HN22 := Lib.hid (HN21.out.fr hF22 (fun q hq hx => HAp.out q hq (by simp at hx; rcases hx with rfl | rfl <;> simp)))
            have HO22 := Lib.hid (HO21.out.fr hF22 (fun q hq hx => HAo.out q hq (by simp at hx; rcases hx with rfl | rfl <;> simp)))
            have HD22 := Lib.hid hD22
            obtain ⟨r4, h4, hI4, hr4⟩ : ∃ r4 h4, Inv (crashD t3.s zs) h4 r4 ∧ (r4 = t2.r ∨ r4 = t2.r) := by
              rcases HCx.out zs with ⟨h', h⟩ | ⟨h', h⟩
              · exact ⟨_, h', h, .inl rfl⟩
              · exact ⟨_, h', h, .inr rfl⟩
            have HI4 := Lib.hid hI4
            have HR4 := Lib.hid hr4
            generalize crashD t3.s zs = s4 at *
            clear hcr hF22 hD22 hI4 hr4 HN21 HO21 HCx
            go_wp2_with fail
            refine (HD22.out.arming _).mono ?_
            rintro e w23 ⟨rfl, hF23, hD23⟩
            have HN23 := Lib.hid (HN22.out.fr hF23 (fun q hq hx => HAp.out q hq (by simp at hx; simp [hx])))
            have HO23 := Lib.hid (HO22.out.fr hF23 (fun q hq hx => HAo.out q hq (by simp at hx; simp [hx])))
            have HI5 := Lib.hid (inv_crash (HI4.out.arm (1 + (i : Int) % 4)) zs)
            have hop := hD23.opens (HI4.out.arm _) He.out HE.out (by omega)
            have HD23 := Lib.hid hD23
            clear hF23 hD23 HD22 HN22 HO22 HI4
            go_wp2_with fail
            refine hop.mono ?_
            rintro e w24 ⟨sb24, v24, rfl, hB24, _⟩
            have hD24 := HD23.out.below hB24
            have HN24 := Lib.hid (HN23.out.below hB24 (Nat.le_refl _))
            have HO24 := Lib.hid (HO23.out.below hB24 (Nat.le_refl _))
            have hcr := hD24.crashes (c := c2) HP.out
            clear hop hB24 hD24 HD23 HN23 HO23
            go_wp2_with fail
            refine hcr.mono ?_
            rintro e w25 ⟨rfl, m25, hF25, hD25⟩
            have HN25 := Lib.hid (HN24.out.fr hF25 (fun q hq hx => HAp.out q hq (by simp at hx; rcases hx with rfl | rfl <;> simp)))
            have HO25 := Lib.hid (HO24.out.fr hF25 (fun q hq hx => HAo.out q hq (by simp at hx; rcases hx with rfl | rfl <;> simp)))
            have HA5 : Hid ((crashD { s4 with armed := 1 + (i : Int) % 4 } zs).armed = 0) := Lib.hid rfl
            generalize crashD { s4 with armed := 1 + (i : Int) % 4 } zs = s5 at *
            have hop := hD25.opens HI5.out He.out HE.out (by omega)
            clear hcr hF25 hD25 HN24 HO24
            go_wp2_with fail
            refine hop.mono ?_
            rintro e w26 ⟨sb26, v26, rfl, hB26, hF26⟩
            have hI26 : Inv' ⟨s5, h4, r4⟩ := HI5.out
            have hN26 := HN25.out.below hB26 (Nat.le_refl _)
            have hsm := same_any _ g f _ sb26 v26 ⟨s5, h4, r4⟩ _ _ t2.r w26 hF26.jr hI26 hN26 HGn.out (by have := HLn.out; omega)
            have HF26 := Lib.hid hF26
            have HI26 := Lib.hid hI26
            have HN26 := Lib.hid hN26
            have HO26 := Lib.hid (HO25.out.below hB26 (Nat.le_refl _))
            clear hop hB26 hF26 hI26 hN26 HN25 HO25 HI5
            go_wp2_with fail
            refine hsm.mono ?_
            rintro e w27 ⟨b27, rfl, hb27, hB27⟩
            have hb27 : b27 = true ↔ r4 = t2.r := hb27
            have HF27 := Lib.hid (HF26.out.below hB27)
            have HN27 := Lib.hid (HN26.out.below hB27 (Nat.le_refl _))
            have hO27 := HO26.out.below hB27 (Nat.le_refl _)
            clear hsm hB27 HF26 HN26 HO26
            cases b27
            · have hne : r4 ≠ t2.r := fun h => by have := hb27.2 h; cases this
              obtain rfl : r4 = t2.r := HR4.out.resolve_right hne
              have hsm := same_any _ g f _ sb26 v26 ⟨s5, h4, t2.r⟩ _ _ t2.r w27 HF27.out.jr HI26.out hO27 (fun c hc => HI26.out.recs.2 c hc) (by have := HI26.out.few; have h2 : (t2.r).length ≤ 256 := this; omega)
              have HO27 := Lib.hid hO27
              clear hO27 hb27 hne HR4
              go_wp2_with fail
              refine hsm.mono ?_
              rintro e w28 ⟨b28, rfl, hb28, hB28⟩
              obtain rfl : b28 = true := hb28.2 rfl
              have HF28 := Lib.hid (HF27.out.below hB28)
              have HO28 := Lib.hid (HO27.out.below hB28 (Nat.le_refl _))
              clear hsm hb28 hB28 HF27 HO27 HN27
              go_wp2
              go_roundg (L.length - (i + 1))
              case measure => omega
              case rel => exact ⟨i + 1, by go_num, by omega, Nat.le_refl _, Lib.hid ⟨_, _, _, _, _, rfl, HF28.out, HI26.out, HA5.out, HO28.out, by have := HK1.out; rw [Nat.succ_mul]; omega, HVo.out⟩⟩
            · obtain rfl : r4 = t2.r := hb27.1 rfl
              clear hb27 hO27 HR4
              go_wp2
              go_roundg (L.length - (i + 1))
              case measure => omega
              case rel => exact ⟨i + 1, by go_num, by omega, Nat.le_refl _, Lib.hid ⟨_, _, _, _, _, rfl, HF27.out, HI26.out, HA5.out, HN27.out, by have := HK1.out; rw [Nat.succ_mul]; omega, HVn.out⟩⟩
          · obtain ⟨c1, c2', c3⟩ := HCf.out.1 hcr
            rw [c1]
            rw [← c2'] at hE5
            have HFx := Lib.hid hS5
            have HNx := Lib.hid hE5
            have HIx := Lib.hid c3
            have HVx : Hid (Vals 400 (rewr t2 t2.r).2.r) := Lib.hid (by rw [c2']; exact HV1.out)
            generalize (rewr t2 t2.r).2 = t3 at *
            clear hS5 hE5 hcr HCf c1 c2' c3
            unfold resV
            have hdn := HFx.out.ds.downs
            rw [show t3.s.down = false from HIx.out.down] at hdn
            go_wp2_with fail
            refine hdn.mono ?_
            rintro e w20 ⟨rfl, rfl⟩
            have har := HFx.out.arming 0
            clear hdn
            go_wp2_with fail
            refine har.mono ?_
            rintro e w21 ⟨rfl, hF21, hS21⟩
            have hO21 := HNx.out.fr hF21 (fun q hq hx => HFx.out.jr.apart HNx.out q hq (by simp at hx; simp [hx]))
            have hI21 : Inv' ⟨{ t3.s with armed := 0 }, t3.h, t3.r⟩ := Inv.arm HIx.out 0
            have hsm := same_any _ g f _ _ _ ⟨{ t3.s with armed := 0 }, t3.h, t3.r⟩ _ _ t3.r w21 hS21.jr hI21 hO21 (fun c hc => hI21.recs.2 c hc) (by have := hI21.few; show t3.r.length ≤ _; have h2 : t3.r.length ≤ 256 := this; omega)
            have HS21 := Lib.hid hS21
            have HO21 := Lib.hid hO21
            have HI21 := Lib.hid hI21
            clear har hF21 hS21 hO21 hI21 HFx HNx HIx
            go_wp2_with fail
            refine hsm.mono ?_
            rintro e w22 ⟨b22, rfl, hb22, hB22⟩
            obtain rfl : b22 = true := hb22.2 rfl
            have HS22 := Lib.hid (HS21.out.below hB22)
            have HO22 := Lib.hid (HO21.out.below hB22 (Nat.le_refl _))
            clear hsm hb22 hB22 HS21 HO21
            go_wp2
            go_roundg (L.length - (i + 1))
            case measure => omega
            case rel => exact ⟨i + 1, by go_num, by omega, Nat.le_refl _, Lib.hid ⟨_, _, _, _, _, rfl, HS22.out, HI21.out, rfl, HO22.out, by have := HK1.out; rw [Nat.succ_mul]; omega, HVx.out⟩⟩
        have HFx := HFs
        have HNx := HO2
        have HIx := HI2
        have HVx := HV1
        clear p1 HFs HO2 HI2
        have hdn := HFx.out.ds.downs
        rw [show t2.s.down = false from HIx.out.down] at hdn
        go_wp2_with fail
        refine hdn.mono ?_
        rintro e w20 ⟨rfl, rfl⟩
        have har := HFx.out.arming 0
        clear hdn
        go_wp2_with fail
        refine har.mono ?_
        rintro e w21 ⟨rfl, hF21, hS21⟩
        have hO21 := HNx.out.fr hF21 (fun q hq hx => HFx.out.jr.apart HNx.out q hq (by simp at hx; simp [hx]))
        have hI21 : Inv' ⟨{ t2.s with armed := 0 }, t2.h, t2.r⟩ := Inv.arm HIx.out 0
        have hsm := same_any _ g f _ _ _ ⟨{ t2.s with armed := 0 }, t2.h, t2.r⟩ _ _ t2.r w21 hS21.jr hI21 hO21 (fun c hc => hI21.recs.2 c hc) (by have := hI21.few; show t2.r.length ≤ _; have h2 : t2.r.length ≤ 256 := this; omega)
        have HS21 := Lib.hid hS21
        have HO21 := Lib.hid hO21
        have HI21 := Lib.hid hI21
        clear har hF21 hS21 hO21 hI21 HFx HNx HIx
        go_wp2_with fail
        refine hsm.mono ?_
        rintro e w22 ⟨b22, rfl, hb22, hB22⟩
        obtain rfl : b22 = true := hb22.2 rfl
        have HS22 := Lib.hid (HS21.out.below hB22)
        have HO22 := Lib.hid (HO21.out.below hB22 (Nat.le_refl _))
        clear hsm hb22 hB22 HS21 HO21
        go_wp2
        go_roundg (L.length - (i + 1))
        case measure => omega
        case rel => exact ⟨i + 1, by go_num, by omega, Nat.le_refl _, Lib.hid ⟨_, _, _, _, _, rfl, HS22.out, HI21.out, rfl, HO22.out, by have := HK1.out; rw [Nat.succ_mul]; omega, HVx.out⟩⟩
      · have hiaI : ¬ (i : Int) < arms.length := by omega
        have HFs := HS1
        have HI2 := HI1
        have HO2 := HO1
        have HV1 := HV0
        have hau : 0 ≤ t1.s.armed ∧ t1.s.armed ≤ 1000 := by omega
        clear HS1 HI1 HO1 HV0
        generalize t1 = t2 at *
        generalize wr = wX at *
        obtain ⟨ad, rfl, hbl, p0, p1, hC, hz⟩ := (HD.out.below HFs.out.ds.un).pick hlt
        have hlx := HLi.out.each i hlt
        generalize L[i] = x at p0 p1 hC hz hlx
        obtain ⟨xk, xA, xc, xl⟩ := x
        simp only at p0 p1 hC hz hlx
        have HC := Lib.hid hC
        have HZ := Lib.hid hz
        have hl8 := hlx.1
        have HVl : Hid (Vals 400 xl) := Lib.hid fun y hy => by
          obtain ⟨j, hj, rfl⟩ := List.mem_iff_getElem.1 hy
          exact (hlx.2 j hj).2
        clear hC hz hlx
        by_cases hk1 : xk = 1
        · subst hk1
          have haf := after_rec w.heap.size u10 t2.r xA xc xl wX HO2.out HI2.out.recs (HC.out.more HFs.out.ds.un.size) (by omega) (by have := HI2.out.few; omega) HFs.out.ds.un.size
          go_wp2_with fail
          refine haf.mono ?_
          rintro e w4 ⟨v4, rfl, hO4, hB4⟩
          have p4 := cell_below p1 hB4 (Nat.le_refl _)
          have HF4 := Lib.hid (HFs.out.below hB4)
          have HO4 := Lib.hid hO4
          have HE4 := Lib.hid (HO2.out.below hB4 (Nat.le_refl _))
          have hcm := Fst.commit HF4.out HI2.out He.out HE.out (by omega) (by omega) hau ((HC.out.below (hB4.mono HFs.out.ds.un.size)).more (Nat.le_trans HFs.out.ds.un.size hB4.size)) HZ.out (by omega)
          have HCf := Lib.hid (comm_falls HI2.out HFs.out.ds.len (by omega) (b := 400) (by omega) HV1.out HVl.out)
          have HVn := Lib.hid (HV1.out.aftR HVl.out)
          have HVo := HV1
          have HGn : Hid (∀ c ∈ aftR t2.r xl, c.gone = false) := Lib.hid (aftR_recs HI2.out.recs xl).2
          have HLn : Hid ((aftR t2.r xl).length ≤ 1000) := Lib.hid (by
            have h1 := aft_length (t2.r ++ xl)
            rw [List.length_append] at h1
            have h2 := HI2.out.few
            unfold aftR
            split
            · omega
            · split
              · omega
              · split
                · omega
                · omega)
          clear haf hO4 hB4 HFs HO2 p0 p1
          go_wp2_with fail
          refine hcm.mono ?_
          intro e w5 h5
          obtain ⟨m5, v5, h5, hF5, hS5⟩ := h5
          subst h5
          have hN5 := HO4.out.past HF4.out.jr hF5
          have hE5 := HE4.out.past HF4.out.jr hF5
          have hdn := hS5.ds.downs
          clear hcm hF5 HF4 HO4 HE4 p4
          by_cases hcr : (comm t2 xl).1 = .crash
          · have HDx := Lib.hid (HCf.out.2 hcr).1
            have HCx := Lib.hid (HCf.out.2 hcr).2
            rw [hcr]
            rw [HDx.out] at hdn
            have HFx := Lib.hid hS5
            have HNx := Lib.hid hN5
            have HOx := Lib.hid hE5
            generalize (comm t2 xl).2 = t3 at *
            generalize hrn : aftR t2.r xl = rn at *
            clear hS5 hN5 hE5 hcr HCf hrn
            unfold resV
            go_wp2_with fail
            refine hdn.mono ?_
            rintro e w19 ⟨rfl, rfl⟩
            clear hdn
            have hdn := HFx.out.ds.downs
            rw [HDx.out] at hdn
            have his := is_res _ ads .crash (HS.out.later HFx.out.ds.un)
            unfold resV codeR at his
            go_wp2_with fail
            refine hdn.mono ?_
            rintro e w20 ⟨rfl, rfl⟩
            clear hdn
            go_wp2_with fail
            refine his.mono ?_
            rintro e w21 ⟨rfl, hB21⟩
            have HAp := Lib.hid (HFx.out.jr.apart HNx.out)
            have HAo := Lib.hid (HFx.out.jr.apart HOx.out)
            have hD21 := HFx.out.ds.below hB21
            have HN21 := Lib.hid (HNx.out.below hB21 (Nat.le_refl _))
            have HO21 := Lib.hid (HOx.out.below hB21 (Nat.le_refl _))
            have hcr := hD21.crashes (c := c2) HP.out
            clear his hB21 hD21 HFx HNx HOx
            go_wp2_with fail
            refine hcr.mono ?_
            rintro e w22 ⟨rfl, m22, hF22, hD22⟩
            have HN22 := Lib.hid (HN21.out.fr hF22 (fun q hq hx => HAp.out q hq (by simp at hx; rcases hx with rfl | rfl <;> simp)))
            have HO22 := Lib.hid (HO21.out.fr hF22 (fun q hq hx => HAo.out q hq (by simp at hx; rcases hx with rfl | rfl <;> simp)))
            have HD22 := Lib.hid hD22
            obtain ⟨r4, h4, hI4, hr4⟩ : ∃ r4 h4, Inv (crashD t3.s zs) h4 r4 ∧ (r4 = t2.r ∨ r4 = rn) := by
              rcases HCx.out zs with ⟨h', h⟩ | ⟨h', h⟩
              · exact ⟨_, h', h, .inl rfl⟩
              · exact ⟨_, h', h, .inr rfl⟩
            have HI4 := Lib.hid hI4
            have HR4 := Lib.hid hr4
            generalize crashD t3.s zs = s4 at *
            clear hcr hF22 hD22 hI4 hr4 HN21 HO21 HCx
            go_wp2_with fail
            refine (HD22.out.arming _).mono ?_
            rintro e w23 ⟨rfl, hF23, hD23⟩
            have HN23 := Lib.hid (HN22.out.fr hF23 (fun q hq hx => HAp.out q hq (by simp at hx; simp [hx])))
            have HO23 := Lib.hid (HO22.out.fr hF23 (fun q hq hx => HAo.out q hq (by simp at hx; simp [hx])))
            have HI5 := Lib.hid (inv_crash (HI4.out.arm (1 + (i : Int) % 4)) zs)
            have hop := hD23.opens (HI4.out.arm _) He.out HE.out (by omega)
            have HD23 := Lib.hid hD23
            clear hF23 hD23 HD22 HN22 HO22 HI4
            go_wp2_with fail
            refine hop.mono ?_
            rintro e w24 ⟨sb24, v24, rfl, hB24, _⟩
            have hD24 := HD23.out.below hB24
            have HN24 := Lib.hid (HN23.out.below hB24 (Nat.le_refl _))
            have HO24 := Lib.hid (HO23.out.below hB24 (Nat.le_refl _))
            have hcr := hD24.crashes (c := c2) HP.out
            clear hop hB24 hD24 HD23 HN23 HO23
            go_wp2_with fail
            refine hcr.mono ?_
            rintro e w25 ⟨rfl, m25, hF25, hD25⟩
            have HN25 := Lib.hid (HN24.out.fr hF25 (fun q hq hx => HAp.out q hq (by simp at hx; rcases hx with rfl | rfl <;> simp)))
            have HO25 := Lib.hid (HO24.out.fr hF25 (fun q hq hx => HAo.out q hq (by simp at hx; rcases hx with rfl | rfl <;> simp)))
            have HA5 : Hid ((crashD { s4 with armed := 1 + (i : Int) % 4 } zs).armed = 0) := Lib.hid rfl
            generalize crashD { s4 with armed := 1 + (i : Int) % 4 } zs = s5 at *
            have hop := hD25.opens HI5.out He.out HE.out (by omega)
            clear hcr hF25 hD25 HN24 HO24
            go_wp2_with fail
            refine hop.mono ?_
            rintro e w26 ⟨sb26, v26, rfl, hB26, hF26⟩
            have hI26 : Inv' ⟨s5, h4, r4⟩ := HI5.out
            have hN26 := HN25.out.below hB26 (Nat.le_refl _)
            have hsm := same_any _ g f _ sb26 v26 ⟨s5, h4, r4⟩ _ _ rn w26 hF26.jr hI26 hN26 HGn.out (by have := HLn.out; omega)
            have HF26 := Lib.hid hF26
            have HI26 := Lib.hid hI26
            have HN26 := Lib.hid hN26
            have HO26 := Lib.hid (HO25.out.below hB26 (Nat.le_refl _))
            clear hop hB26 hF26 hI26 hN26 HN25 HO25 HI5
            go_wp2_with fail
            refine hsm.mono ?_
            rintro e w27 ⟨b27, rfl, hb27, hB27⟩
            have hb27 : b27 = true ↔ r4 = rn := hb27
            have HF27 := Lib.hid (HF26.out.below hB27)
            have HN27 := Lib.hid (HN26.out.below hB27 (Nat.le_refl _))
            have hO27 := HO26.out.below hB27 (Nat.le_refl _)
            clear hsm hB27 HF26 HN26 HO26
            cases b27
            · have hne : r4 ≠ rn := fun h => by have := hb27.2 h; cases this
              obtain rfl : r4 = t2.r := HR4.out.resolve_right hne
              have hsm := same_any _ g f _ sb26 v26 ⟨s5, h4, t2.r⟩ _ _ t2.r w27 HF27.out.jr HI26.out hO27 (fun c hc => HI26.out.recs.2 c hc) (by have := HI26.out.few; have h2 : (t2.r).length ≤ 256 := this; omega)
              have HO27 := Lib.hid hO27
              clear hO27 hb27 hne HR4
              go_wp2_with fail
              refine hsm.mono ?_
              rintro e w28 ⟨b28, rfl, hb28, hB28⟩
              obtain rfl : b28 = true := hb28.2 rfl
              have HF28 := Lib.hid (HF27.out.below hB28)
              have HO28 := Lib.hid (HO27.out.below hB28 (Nat.le_refl _))
              clear hsm hb28 hB28 HF27 HO27 HN27
              go_wp2
              go_roundg (L.length - (i + 1))
              case measure => omega
              case rel => exact ⟨i + 1, by go_num, by omega, Nat.le_refl _, Lib.hid ⟨_, _, _, _, _, rfl, HF28.out, HI26.out, HA5.out, HO28.out, by have := HK1.out; rw [Nat.succ_mul]; omega, HVo.out⟩⟩
            · obtain rfl : r4 = rn := hb27.1 rfl
              clear hb27 hO27 HR4
              go_wp2
              go_roundg (L.length - (i + 1))
              case measure => omega
              case rel => exact ⟨i + 1, by go_num, by omega, Nat.le_refl _, Lib.hid ⟨_, _, _, _, _, rfl, HF27.out, HI26.out, HA5.out, HN27.out, by have := HK1.out; rw [Nat.succ_mul]; omega, HVn.out⟩⟩
          · obtain ⟨c1, c2', c3⟩ := HCf.out.1 hcr
            have his := is_res w5 ads (comm t2 xl).1 (HS.out.later hS5.ds.un)
            rw [c1] at his
            rw [← c2'] at hN5 HVn
            rw [show (comm t2 xl).2.s.down = false from c3.down] at hdn
            have HFx0 := Lib.hid hS5
            have HNx0 := Lib.hid hN5
            have HIx := Lib.hid c3
            have HVx := HVn
            generalize (comm t2 xl).2 = t3 at *
            generalize (comm t2 xl).1 = rs at *
            generalize aftN t2.r xl = an at *
            clear hS5 hN5 hE5 hcr HCf c1 c2' c3
            go_wp2_with fail
            refine hdn.mono ?_
            rintro e w19 ⟨rfl, rfl⟩
            clear hdn
            go_wp2_with fail
            refine his.mono ?_
            rintro e w18 ⟨rfl, hB18⟩
            have HFx := Lib.hid (HFx0.out.below hB18)
            have HNx := Lib.hid (HNx0.out.below hB18 (Nat.le_refl _))
            clear his hB18 HFx0 HNx0
            have hdn := HFx.out.ds.downs
            rw [show t3.s.down = false from HIx.out.down] at hdn
            go_wp2_with fail
            refine hdn.mono ?_
            rintro e w20 ⟨rfl, rfl⟩
            have har := HFx.out.arming 0
            clear hdn
            go_wp2_with fail
            refine har.mono ?_
            rintro e w21 ⟨rfl, hF21, hS21⟩
            have hO21 := HNx.out.fr hF21 (fun q hq hx => HFx.out.jr.apart HNx.out q hq (by simp at hx; simp [hx]))
            have hI21 : Inv' ⟨{ t3.s with armed := 0 }, t3.h, t3.r⟩ := Inv.arm HIx.out 0
            have hsm := same_any _ g f _ _ _ ⟨{ t3.s with armed := 0 }, t3.h, t3.r⟩ _ _ t3.r w21 hS21.jr hI21 hO21 (fun c hc => hI21.recs.2 c hc) (by have := hI21.few; show t3.r.length ≤ _; have h2 : t3.r.length ≤ 256 := this; omega)
            have HS21 := Lib.hid hS21
            have HO21 := Lib.hid hO21
            have HI21 := Lib.hid hI21
            clear har hF21 hS21 hO21 hI21 HFx HNx HIx
            go_wp2_with fail
            refine hsm.mono ?_
            rintro e w22 ⟨b22, rfl, hb22, hB22⟩
            obtain rfl : b22 = true := hb22.2 rfl
            have HS22 := Lib.hid (HS21.out.below hB22)
            have HO22 := Lib.hid (HO21.out.below hB22 (Nat.le_refl _))
            clear hsm hb22 hB22 HS21 HO21
            go_wp2
            go_roundg (L.length - (i + 1))
            case measure => omega
            case rel => exact ⟨i + 1, by go_num, by omega, Nat.le_refl _, Lib.hid ⟨_, _, _, _, _, rfl, HS22.out, HI21.out, rfl, HO22.out, by have := HK1.out; rw [Nat.succ_mul]; omega, HVx.out⟩⟩
        by_cases hk2 : xk = 2
        · subst hk2
          have hcm := Fst.compact HFs.out HI2.out He.out HE.out (by omega) (by omega) hau
          have HCf := Lib.hid (rewr_falls HI2.out HFs.out.ds.len (by omega) (b := 400) (by omega) HV1.out)
          clear p1
          go_wp2_with fail
          refine hcm.mono ?_
          intro e w5 h5
          obtain ⟨m5, v5, h5, hF5, hS5⟩ := h5
          subst h5
          have hE5 := HO2.out.past HFs.out.jr hF5
          clear hcm hF5 HFs HO2 p0
          by_cases hcr : (rewr t2 t2.r).1 = .crash
          · have HDx := Lib.hid (HCf.out.2 hcr).1
            have HCx : Hid (∀ zs, (∃ h', Inv (crashD (rewr t2 t2.r).2.s zs) h' t2.r) ∨ ∃ h', Inv (crashD (rewr t2 t2.r).2.s zs) h' t2.r) := Lib.hid fun zs => .inl ((HCf.out.2 hcr).2 zs)
            rw [hcr]
            have HFx := Lib.hid hS5
            have HNx := Lib.hid hE5
            have HOx := Lib.hid hE5
            have HVn := HV1
            have HVo := HV1
            have HGn : Hid (∀ c ∈ t2.r, c.gone = false) := Lib.hid HI2.out.recs.2
            have HLn : Hid (t2.r.length ≤ 1000) := Lib.hid (by have := HI2.out.few; omega)
            generalize (rewr t2 t2.r).2 = t3 at *
            clear hS5 hE5 hcr HCf
            unfold resV
            have hdn := HFx.out.ds.downs
            rw [HDx.out] at hdn
            have his := is_res _ ads .crash (HS.out.later HFx.out.ds.un)
            unfold resV codeR at his
            go_wp2_with fail
            refine hdn.mono ?_
            rintro e w20 ⟨rfl, rfl⟩
            clear hdn
            go_wp2_with fail
            refine his.mono ?_
            rintro e w21 ⟨rfl, hB21⟩
            have HAp := Lib.hid (HFx.out.jr.apart HNx.out)
            have HAo := Lib.hid (HFx.out.jr.apart HOx.out)
            have hD21 := HFx.out.ds.below hB21
            have HN21 := Lib.hid (HNx.out.below hB21 (Nat.le_refl _))
            have HO21 := Lib.hid (HOx.out.below hB21 (Nat.le_refl _))
            have hcr := hD21.crashes (c := c2) HP.out
            clear his hB21 hD21 HFx HNx HOx
            go_wp2_with fail
            refine hcr.mono ?_
            rintro e w22 ⟨rfl, m22, hF22, hD22⟩
            have HN22 := Lib.hid (HN21.out.fr hF22 (fun q hq hx => HAp.out q hq (by simp at hx; rcases hx with rfl | rfl <;> simp)))
            have HO22 := Lib.hid (HO21.out.fr hF22 (fun q hq hx => HAo.out q hq (by simp at hx; rcases hx with rfl | rfl <;> simp)))
            have HD22 := Lib.hid hD22
            obtain ⟨r4, h4, hI4, hr4⟩ : ∃ r4 h4, Inv (crashD t3.s zs) h4 r4 ∧ (r4 = t2.r ∨ r4 = t2.r) := by
              rcases HCx.out zs with ⟨h', h⟩ | ⟨h', h⟩
              · exact ⟨_, h', h, .inl rfl⟩
              · exact ⟨_, h', h, .inr rfl⟩
            have HI4 := Lib.hid hI4
            have HR4 := Lib.hid hr4
            generalize crashD t3.s zs = s4 at *
            clear hcr hF22 hD22 hI4 hr4 HN21 HO21 HCx
            go_wp2_with fail
            refine (HD22.out.arming _).mono ?_
            rintro e w23 ⟨rfl, hF23, hD23⟩
            have HN23 := Lib.hid (HN22.out.fr hF23 (fun q hq hx => HAp.out q hq (by simp at hx; simp [hx])))
            have HO23 := Lib.hid (HO22.out.fr hF23 (fun q hq hx => HAo.out q hq (by simp at hx; simp [hx])))
            have HI5 := Lib.hid (inv_crash (HI4.out.arm (1 + (i : Int) % 4)) zs)
            have hop := hD23.opens (HI4.out.arm _) He.out HE.out (by omega)
            have HD23 := Lib.hid hD23
            clear hF23 hD23 HD22 HN22 HO22 HI4
            go_wp2_with fail
            refine hop.mono ?_
            rintro e w24 ⟨sb24, v24, rfl, hB24, _⟩
            have hD24 := HD23.out.below hB24
            have HN24 := Lib.hid (HN23.out.below hB24 (Nat.le_refl _))
            have HO24 := Lib.hid (HO23.out.below hB24 (Nat.le_refl _))
            have hcr := hD24.crashes (c := c2) HP.out
            clear hop hB24 hD24 HD23 HN23 HO23
            go_wp2_with fail
            refine hcr.mono ?_
            rintro e w25 ⟨rfl, m25, hF25, hD25⟩
            have HN25 := Lib.hid (HN24.out.fr hF25 (fun q hq hx => HAp.out q hq (by simp at hx; rcases hx with rfl | rfl <;> simp)))
            have HO25 := Lib.hid (HO24.out.fr hF25 (fun q hq hx => HAo.out q hq (by simp at hx; rcases hx with rfl | rfl <;> simp)))
            have HA5 : Hid ((crashD { s4 with armed := 1 + (i : Int) % 4 } zs).armed = 0) := Lib.hid rfl
            generalize crashD { s4 with armed := 1 + (i : Int) % 4 } zs = s5 at *
            have hop := hD25.opens HI5.out He.out HE.out (by omega)
            clear hcr hF25 hD25 HN24 HO24
            go_wp2_with fail
            refine hop.mono ?_
            rintro e w26 ⟨sb26, v26, rfl, hB26, hF26⟩
            have hI26 : Inv' ⟨s5, h4, r4⟩ := HI5.out
            have hN26 := HN25.out.below hB26 (Nat.le_refl _)
            have hsm := same_any _ g f _ sb26 v26 ⟨s5, h4, r4⟩ _ _ t2.r w26 hF26.jr hI26 hN26 HGn.out (by have := HLn.out; omega)
            have HF26 := Lib.hid hF26
            have HI26 := Lib.hid hI26
            have HN26 := Lib.hid hN26
            have HO26 := Lib.hid (HO25.out.below hB26 (Nat.le_refl _))
            clear hop hB26 hF26 hI26 hN26 HN25 HO25 HI5
            go_wp2_with fail
            refine hsm.mono ?_
            rintro e w27 ⟨b27, rfl, hb27, hB27⟩
            have hb27 : b27 = true ↔ r4 = t2.r := hb27
            have HF27 := Lib.hid (HF26.out.below hB27)
            have HN27 := Lib.hid (HN26.out.below hB27 (Nat.le_refl _))
            have hO27 := HO26.out.below hB27 (Nat.le_refl _)
            clear hsm hB27 HF26 HN26 HO26
            cases b27
            · have hne : r4 ≠ t2.r := fun h => by have := hb27.2 h; cases this
              obtain rfl : r4 = t2.r := HR4.out.resolve_right hne
              have hsm := same_any _ g f _ sb26 v26 ⟨s5, h4, t2.r⟩ _ _ t2.r w27 HF27.out.jr HI26.out hO27 (fun c hc => HI26.out.recs.2 c hc) (by have := HI26.out.few; have h2 : (t2.r).length ≤ 256 := this; omega)
              have HO27 := Lib.hid hO27
              clear hO27 hb27 hne HR4
              go_wp2_with fail
              refine hsm.mono ?_
              rintro e w28 ⟨b28, rfl, hb28, hB28⟩
              obtain rfl : b28 = true := hb28.2 rfl
              have HF28 := Lib.hid (HF27.out.below hB28)
              have HO28 := Lib.hid (HO27.out.below hB28 (Nat.le_refl _))
              clear hsm hb28 hB28 HF27 HO27 HN27
              go_wp2
              go_roundg (L.length - (i + 1))
              case measure => omega
              case rel => exact ⟨i + 1, by go_num, by omega, Nat.le_refl _, Lib.hid ⟨_, _, _, _, _, rfl, HF28.out, HI26.out, HA5.out, HO28.out, by have := HK1.out; rw [Nat.succ_mul]; omega, HVo.out⟩⟩
            · obtain rfl : r4 = t2.r := hb27.1 rfl
              clear hb27 hO27 HR4
              go_wp2
              go_roundg (L.length - (i + 1))
              case measure => omega
              case rel => exact ⟨i + 1, by go_num, by omega, Nat.le_refl _, Lib.hid ⟨_, _, _, _, _, rfl, HF27.out, HI26.out, HA5.out, HN27.out, by have := HK1.out; rw [Nat.succ_mul]; omega, HVn.out⟩⟩
          · obtain ⟨c1, c2', c3⟩ := HCf.out.1 hcr
            rw [c1]
            rw [← c2'] at hE5
            have HFx := Lib.hid hS5
            have HNx := Lib.hid hE5
            have HIx := Lib.hid c3
            have HVx : Hid (Vals 400 (rewr t2 t2.r).2.r) := Lib.hid (by rw [c2']; exact HV1.out)
            generalize (rewr t2 t2.r).2 = t3 at *
            clear hS5 hE5 hcr HCf c1 c2' c3
            unfold resV
            have hdn := HFx.out.ds.downs
            rw [show t3.s.down = false from HIx.out.down] at hdn
            go_wp2_with fail
            refine hdn.mono ?_
            rintro e w20 ⟨rfl, rfl⟩
            have har := HFx.out.arming 0
            clear hdn
            go_wp2_with fail
            refine har.mono ?_
            rintro e w21 ⟨rfl, hF21, hS21⟩
            have hO21 := HNx.out.fr hF21 (fun q hq hx => HFx.out.jr.apart HNx.out q hq (by simp at hx; simp [hx]))
            have hI21 : Inv' ⟨{ t3.s with armed := 0 }, t3.h, t3.r⟩ := Inv.arm HIx.out 0
            have hsm := same_any _ g f _ _ _ ⟨{ t3.s with armed := 0 }, t3.h, t3.r⟩ _ _ t3.r w21 hS21.jr hI21 hO21 (fun c hc => hI21.recs.2 c hc) (by have := hI21.few; show t3.r.length ≤ _; have h2 : t3.r.length ≤ 256 := this; omega)
            have HS21 := Lib.hid hS21
            have HO21 := Lib.hid hO21
            have HI21 := Lib.hid hI21
            clear har hF21 hS21 hO21 hI21 HFx HNx HIx
            go_wp2_with fail
            refine hsm.mono ?_
            rintro e w22 ⟨b22, rfl, hb22, hB22⟩
            obtain rfl : b22 = true := hb22.2 rfl
            have HS22 := Lib.hid (HS21.out.below hB22)
            have HO22 := Lib.hid (HO21.out.below hB22 (Nat.le_refl _))
            clear hsm hb22 hB22 HS21 HO21
            go_wp2
            go_roundg (L.length - (i + 1))
            case measure => omega
            case rel => exact ⟨i + 1, by go_num, by omega, Nat.le_refl _, Lib.hid ⟨_, _, _, _, _, rfl, HS22.out, HI21.out, rfl, HO22.out, by have := HK1.out; rw [Nat.succ_mul]; omega, HVx.out⟩⟩
        have HFx := HFs
        have HNx := HO2
        have HIx := HI2
        have HVx := HV1
        clear p1 HFs HO2 HI2
        have hdn := HFx.out.ds.downs
        rw [show t2.s.down = false from HIx.out.down] at hdn
        go_wp2_with fail
        refine hdn.mono ?_
        rintro e w20 ⟨rfl, rfl⟩
        have har := HFx.out.arming 0
        clear hdn
        go_wp2_with fail
        refine har.mono ?_
        rintro e w21 ⟨rfl, hF21, hS21⟩
        have hO21 := HNx.out.fr hF21 (fun q hq hx => HFx.out.jr.apart HNx.out q hq (by simp at hx; simp [hx]))
        have hI21 : Inv' ⟨{ t2.s with armed := 0 }, t2.h, t2.r⟩ := Inv.arm HIx.out 0
        have hsm := same_any _ g f _ _ _ ⟨{ t2.s with armed := 0 }, t2.h, t2.r⟩ _ _ t2.r w21 hS21.jr hI21 hO21 (fun c hc => hI21.recs.2 c hc) (by have := hI21.few; show t2.r.length ≤ _; have h2 : t2.r.length ≤ 256 := this; omega)
        have HS21 := Lib.hid hS21
        have HO21 := Lib.hid hO21
        have HI21 := Lib.hid hI21
        clear har hF21 hS21 hO21 hI21 HFx HNx HIx
        go_wp2_with fail
        refine hsm.mono ?_
        rintro e w22 ⟨b22, rfl, hb22, hB22⟩
        obtain rfl : b22 = true := hb22.2 rfl
        have HS22 := Lib.hid (HS21.out.below hB22)
        have HO22 := Lib.hid (HO21.out.below hB22 (Nat.le_refl _))
        clear hsm hb22 hB22 HS21 HO21
        go_wp2
        go_roundg (L.length - (i + 1))
        case measure => omega
        case rel => exact ⟨i + 1, by go_num, by omega, Nat.le_refl _, Lib.hid ⟨_, _, _, _, _, rfl, HS22.out, HI21.out, rfl, HO22.out, by have := HK1.out; rw [Nat.succ_mul]; omega, HVx.out⟩⟩
    · have hltI : ¬ (i : Int) < L.length := by omega
      have hsm := same_any _ g f m1 sb1 v1 t1 _ _ t1.r wr HS1.out.jr HI1.out HO1.out (fun c hc => HI1.out.recs.2 c hc) (by have := HI1.out.few; omega)
      have HU := Lib.hid HS1.out.ds.un
      clear HS1 HO1
      go_wp2_with fail
      refine hsm.mono ?_
      rintro e w4 ⟨b4, rfl, hb4, hB4⟩
      obtain rfl : b4 = true := hb4.2 rfl
      have HB4 := Lib.hid (HU.out.trans (hB4.mono HU.out.size))
      clear hsm hb4 hB4
      go_wp2
      go_ret
      exact ⟨rfl, HB4.out⟩
end Go.Proofs.YtmpklljiddggpaaGreatDoor
