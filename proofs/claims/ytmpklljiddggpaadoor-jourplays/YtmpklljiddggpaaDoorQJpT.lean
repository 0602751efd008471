/-
  The walk of JourPlays. Conditions: each theorem's own premises.
-/
import Derived.Test.YtmpklljiddggpaaDoorQJpP
namespace Go.Proofs.YtmpklljiddggpaaDoor
open Go.Shelf Go.RowKit Go.Lib Go.Sort
attribute [local go_sem] Oper.semAt_some

/-- Has one of the records this key? -/
def hasK (k : List UInt8) (l : List Chg) : Bool := l.any fun c => decide (c.key = k)
theorem hasK_get (k : List UInt8) (l : List Chg) : hasK k l = getB k l := by
  unfold getB
  induction l with
  | nil => rfl
  | cons x r ih =>
    rw [getC_cons]
    by_cases e : x.key = k
    · simp [hasK, e]
    · rw [if_neg e, ← ih]
      simp [hasK, e]
theorem hasK_step (k : List UInt8) (l : List Chg) (i : Nat) (h : i < l.length) : hasK k (l.take (i + 1)) = (hasK k (l.take i) || decide (l[i].key = k)) := by
  unfold hasK
  rw [List.take_succ_eq_append_getElem h, List.any_append, List.any_cons, List.any_nil, Bool.or_false]
theorem sumC_few {l : List Chg} {a b : Nat} (h : ∀ c ∈ l, c.key.length ≤ a ∧ c.val.length ≤ b) : sumC l ≤ l.length * (a + b + 30) := by
  induction l with
  | nil => simp [sumC]
  | cons c r ih =>
    have h1 := h c (by simp)
    have h2 := ih fun x hx => h x (by simp [hx])
    rw [sumC, List.length_cons, Nat.succ_mul]
    omega
/-- Values of at most so many bytes. -/
def Vals (n : Nat) (l : List Chg) : Prop := ∀ c ∈ l, c.val.length ≤ n
theorem Vals.aft {n : Nat} {r l : List Chg} (h1 : Vals n r) (h2 : Vals n l) : Vals n (aft (r ++ l)) := fun c hc => by
  rcases List.mem_append.1 (aft_mem hc) with h | h
  · exact h1 c h
  · exact h2 c h
theorem Vals.aftR {n : Nat} {r l : List Chg} (h1 : Vals n r) (h2 : Vals n l) : Vals n (aftR r l) := by
  unfold Go.Proofs.YtmpklljiddggpaaDoor.aftR
  split
  · exact h1
  · split
    · exact h1
    · split
      · exact h1
      · exact h1.aft h2
/-- Few records of small values have room. -/
theorem vals_room {l : List Chg} {b n : Nat} (hok : ∀ c ∈ l, OkC c) (hv : Vals b l) (hf : l.length ≤ 256) (hb : 4 * b + 282 ≤ n) : secs l ≤ roomN n := by
  have h1 := encL_sum hok
  have h2 := sumC_few (l := l) (a := 40) (b := b) fun c hc => ⟨(hok c hc).k2, hv c hc⟩
  have h3 : l.length * (40 + b + 30) ≤ 256 * (40 + b + 30) := Nat.mul_le_mul_right _ hf
  unfold secs roomN
  omega
/-- Commit answers what the statements' after says, where there is room. -/
theorem comm_after {n K b : Nat} {t : St} (h : Ok n K t) (hn : 1 ≤ n) {l : List Chg} (hb : 4 * b + 282 ≤ n) (hr : Vals b t.r) (hl : Vals b l) : codeR (comm t l).1 = aftN t.r l ∧ (comm t l).2.r = aftR t.r l := by
  have he := aft_eff h.inv.recs l
  unfold aftN aftR
  by_cases k1 : l.any badKey = true
  · rw [comm_key k1, if_pos k1, if_pos k1]
    exact ⟨rfl, rfl⟩
  · have k1' : l.any badKey = false := by simpa using k1
    rw [if_neg k1, if_neg k1]
    by_cases k2 : l.any badVal = true
    · rw [comm_val k1' k2, if_pos k2, if_pos k2]
      exact ⟨rfl, rfl⟩
    · have k2' : l.any badVal = false := by simpa using k2
      rw [if_neg k2, if_neg k2]
      by_cases k3 : 256 < (aft (t.r ++ l)).length
      · rw [if_pos k3, if_pos k3]
        have : comm t l = (.many, t) := by unfold comm; rw [he, if_neg k1, if_neg k2, if_pos k3]
        rw [this]
        exact ⟨rfl, rfl⟩
      · rw [if_neg k3, if_neg k3]
        have hf := h.fine k1' k2' (by omega) (vals_room (aft_ok h k1' k2') (hr.aft hl) (by omega) hb)
        exact ⟨by rw [hf]; rfl, (h.step hn l).2.2.1 hf⟩
/-- Where JourPlays's loop stands. -/
def PlayI (w0 : World) (i g f : Nat) (s6 vh : Value) (wr : World) : Prop :=
  ∃ m sb v t K, s6 = .pointer (some ⟨sb, 0, none⟩) ∧ Sto w0 wr 8192 K g f m sb v t ∧ Ow LC wr w0.heap.size vh t.r ∧ K ≤ i * 8195 ∧ Vals 600 t.r

set_option maxRecDepth 100000 in
set_option maxHeartbeats 4000000 in
theorem jplays_any (a : Option Addr) (c : Nat) (L : List DoJ) (ask : List UInt8) (w : World) (ads : List Addr) (hS : Sents w ads) (hD : Djs w w.heap.size a L) :
    Calls Tryd.prog 3 #[.slice a L.length c, .string ⟨ask.toArray⟩] w (RetYes w) := by
  have HE := Lib.hid (es_of hS)
  have He := Lib.hid (errs_of hS)
  have HS := Lib.hid hS
  have HD := Lib.hid hD
  have hch := chap_any w _ _ _ _ _ _ He.out HE.out
  clear hS hD
  go_enter Tryd.func3, Tryd.ntmps3
  go_wp2_with fail
  refine hch.mono ?_
  rintro e w1 ⟨rfl, hB1⟩
  have HB1 := Lib.hid hB1
  have HD1 := Lib.hid (HD.out.below hB1)
  have hli := light_any a c L 40 600 w1 ⟨fun hn => by obtain ⟨ad, h1, h2, h3⟩ := HD1.out.here hn; exact ⟨ad, h1, Nat.lt_of_lt_of_le h2 hB1.size, h3⟩, fun t ht => ⟨(HD1.out.each t ht).1.more hB1.size, (HD1.out.each t ht).2⟩⟩ (by omega)
  clear hch hB1
  go_wp2_with fail
  refine hli.mono ?_
  rintro e w2 ⟨b2, rfl, hb2, rfl⟩
  clear hli
  cases b2
  · clear hb2
    go_wp2
    go_ret
    exact ⟨rfl, HB1.out⟩
  have HLi := Lib.hid (hb2 rfl)
  have h40 := (hb2 rfl).few
  clear hb2
  have hop := opened_any 8192 w2 _ _ _ _ _ _ (by omega) (by omega) (He.out.below HB1.out (Nat.le_refl _)) (HE.out.fr ((Fr.refl [] w).belows HB1.out (Nat.le_refl _)) (by simp))
  go_wp2_with fail
  refine hop.mono ?_
  intro e w3 h3
  obtain ⟨g, f, m, sb, v, rfl, hSt⟩ := h3.sto HB1.out
  have HS0 : Hid (PlayI w 0 g f (.pointer (some ⟨sb, 0, none⟩)) (.slice none 0 0) w3) := Lib.hid ⟨m, sb, v, newSt 8192, 0, rfl, hSt, Ow.nil _ _ _, Nat.zero_le _, fun c hc => by cases hc⟩
  clear h3 hop hSt HB1 HD1
  go_wp2
  go_loopg [6, 8, 9, 10, 11, 12, 13, 14, 15, 16, 17] L.length (fun kx s6 s8 s9 _ _ _ _ _ _ _ _ wr => ∃ i : Nat, s9 = .int .i64 i ∧ i ≤ L.length ∧ L.length - i ≤ kx ∧ Hid (PlayI w i g f s6 s8 wr))
  case atStart => exact ⟨0, rfl, by omega, by omega, HS0⟩
  case round =>
    clear HS0
    obtain ⟨i, rfl, hin, hix, HR⟩ := hrel
    obtain ⟨m1, sb1, v1, t1, K1, rfl, hS1, hO1, hK1, hV1⟩ := HR.out
    have HS1 := Lib.hid hS1
    have HO1 := Lib.hid hO1
    have HV1 := Lib.hid hV1
    have hKn : K1 < 1000000 := by
      have : i * 8195 ≤ 40 * 8195 := Nat.mul_le_mul_right _ (by omega)
      omega
    have HK1 := Lib.hid hK1
    clear HR hS1 hO1 hK1 hV1
    by_cases hlt : i < L.length
    · have hltI : (i : Int) < L.length := by omega
      obtain ⟨ad, rfl, hbl, p0, p1, hC, hz⟩ := (HD.out.below HS1.out.un).pick hlt
      have hlx := HLi.out.each i hlt
      generalize L[i] = x at p0 p1 hC hz hlx
      obtain ⟨xk, xA, xc, xl⟩ := x
      simp only at p0 p1 hC hz hlx
      have HC := Lib.hid hC
      have HZ := Lib.hid hz
      have hl8 := hlx.1
      have HVl : Hid (Vals 600 xl) := Lib.hid fun y hy => by
        obtain ⟨j, hj, rfl⟩ := List.mem_iff_getElem.1 hy
        exact (hlx.2 j hj).2
      clear hC hz hlx
      by_cases hk1 : xk = 1
      · subst hk1
        have haf := after_rec w.heap.size u8 t1.r xA xc xl wr HO1.out HS1.out.ok.inv.recs (HC.out.more HS1.out.un.size) (by omega) (by have := HS1.out.ok.inv.few; omega) HS1.out.un.size
        go_wp2_with fail
        refine haf.mono ?_
        rintro e w4 ⟨v4, rfl, hO4, hB4⟩
        have p4 := cell_below p1 hB4 (Nat.le_refl _)
        have HS4 := Lib.hid (HS1.out.below hB4)
        have HO4 := Lib.hid hO4
        have hcm := Sto.commit HS4.out He.out HE.out (by omega) (by omega) ((HC.out.below (hB4.mono HS1.out.un.size)).more (Nat.le_trans HS1.out.un.size hB4.size)) HZ.out (by omega)
        have hca := comm_after HS4.out.ok (by omega) (b := 600) (by omega) HV1.out HVl.out
        have HCa := Lib.hid hca
        have HVx := Lib.hid (HV1.out.aftR HVl.out)
        clear haf hO4 hB4 HS1 HO1 hca
        go_wp2_with fail
        refine hcm.mono ?_
        intro e w5 h5
        obtain ⟨m5, v5, _, h5, hF5, hS5⟩ := h5
        subst h5
        have hO5 := HO4.out.past HS4.out.jr hF5
        have his := is_res w5 ads (comm t1 xl).1 (hS5.sents HS.out)
        rw [HCa.out.1] at his
        have hr5 := HCa.out.2
        rw [← hr5] at hO5
        rw [← hr5] at HVx
        have HS5 := Lib.hid hS5
        have HO5 := Lib.hid hO5
        clear hcm hF5 hS5 hO5 hr5 HS4 HO4 HCa p1 p4 p0
        generalize (comm t1 xl).2 = t2 at *
        generalize (comm t1 xl).1 = rs at *
        go_wp2_with fail
        refine his.mono ?_
        rintro e w6 ⟨rfl, hB6⟩
        have HSx := Lib.hid (HS5.out.below hB6)
        have HOx := Lib.hid (HO5.out.below hB6 (Nat.le_refl _))
        clear his hB6 HS5 HO5
        have hsw := 0
        have hgt := HSx.out.get ask
        clear hsw
        go_wp2_with fail
        refine hgt.mono ?_
        rintro e w20 ⟨h20, hB20⟩
        obtain rfl := h20
        have HS20 := Lib.hid (HSx.out.below hB20)
        have HO20 := Lib.hid (HOx.out.below hB20 (Nat.le_refl _))
        clear hgt hB20 HSx HOx
        obtain ⟨A20, c20, hv20, hR20, -⟩ := HO20.out.rw
        subst hv20
        have HR20 := Lib.hid hR20
        have hfew := HS20.out.ok.inv.few
        have HGB := Lib.hid (hasK_get ask t2.r)
        clear hR20
        generalize getV ask t2.r = gv
        generalize getB ask t2.r = gb at *
        go_wp2
        go_loopg [16, 17] t2.r.length (fun ky s16 s17 wq => ∃ k : Nat, s17 = .int .i64 k ∧ s16 = .bool (hasK ask (t2.r.take k)) ∧ k ≤ t2.r.length ∧ t2.r.length - k ≤ ky ∧ w20 = wq)
        case atStart => exact ⟨0, rfl, rfl, by omega, by omega, rfl⟩
        case round =>
          obtain ⟨k, rfl, rfl, hkn, hky, rfl⟩ := hrel
          by_cases hk : k < t2.r.length
          · have hkI : (k : Int) < t2.r.length := by omega
            obtain ⟨ad20, rfl, _, r20⟩ := HR20.out.pick hk
            have q0 : w20.cell? (ad20.add (k * 2)) = some (.string ⟨t2.r[k].key.toArray⟩) := r20 0 _ rfl
            have HH := Lib.hid (hasK_step ask t2.r k hk)
            generalize t2.r[k].key = xk at *
            clear r20
            cases hb : hasK ask (t2.r.take k)
            · rw [hb] at HH
              by_cases he : xk = ask
              · subst he
                go_wp2
                go_roundg (t2.r.length - (k + 1))
                case measure => omega
                case rel => exact ⟨k + 1, by go_num, by rw [HH.out]; simp, by omega, Nat.le_refl _, rfl⟩
              · have heB : (xk == ask) = false := by rw [beq_eq_false_iff_ne]; exact he
                go_wp2
                go_roundg (t2.r.length - (k + 1))
                case measure => omega
                case rel => exact ⟨k + 1, by go_num, by rw [HH.out]; simp [he], by omega, Nat.le_refl _, rfl⟩
            · rw [hb] at HH
              go_wp2
              go_roundg (t2.r.length - (k + 1))
              case measure => omega
              case rel => exact ⟨k + 1, by go_num, by rw [HH.out]; simp, by omega, Nat.le_refl _, rfl⟩
          · have hkI : ¬ (k : Int) < t2.r.length := by omega
            have ht : t2.r.take k = t2.r := List.take_of_length_le (by omega)
            rw [ht, HGB.out]
            have hsm := same_any _ g f m5 sb1 v5 t2 _ _ t2.r w20 HS20.out.jr HS20.out.ok.inv HO20.out (fun c hc => HS20.out.ok.inv.recs.2 c hc) (by omega)
            clear ht
            go_wp2_with fail
            refine hsm.mono ?_
            rintro e w21 ⟨b21, rfl, hb21, hB21⟩
            obtain rfl : b21 = true := hb21.2 rfl
            have HS21 := Lib.hid (HS20.out.below hB21)
            have HO21 := Lib.hid (HO20.out.below hB21 (Nat.le_refl _))
            clear hsm hb21 hB21 HS20 HO20 HR20
            cases gb
            · go_wp2
              go_roundg (L.length - (i + 1))
              case measure => omega
              case rel => exact ⟨i + 1, by go_num, by omega, Nat.le_refl _, Lib.hid ⟨_, _, _, _, _, rfl, HS21.out, HO21.out, by have := HK1.out; rw [Nat.succ_mul]; omega, HVx.out⟩⟩
            · go_wp2
              go_roundg (L.length - (i + 1))
              case measure => omega
              case rel => exact ⟨i + 1, by go_num, by omega, Nat.le_refl _, Lib.hid ⟨_, _, _, _, _, rfl, HS21.out, HO21.out, by have := HK1.out; rw [Nat.succ_mul]; omega, HVx.out⟩⟩
      by_cases hk2 : xk = 2
      · subst hk2
        have hcm := Sto.compact HS1.out He.out HE.out (by omega) (by omega)
        have hfi := HS1.out.ok.rewr_fine (vals_room (b := 600) HS1.out.ok.inv.ok HV1.out HS1.out.ok.inv.few (by omega))
        have hag := HS1.out.ok.again (by omega)
        go_wp2_with fail
        refine hcm.mono ?_
        intro e w5 h5
        obtain ⟨m5, v5, _, h5, hF5, hS5⟩ := h5
        obtain rfl : e = .returned .nilIface := by rw [hfi] at h5; exact h5
        have hO5 := HO1.out.past HS1.out.jr hF5
        have hr5 := hag.2.2
        rw [← hr5] at hO5
        have HVx : Hid (Vals 600 (rewr t1 t1.r).2.r) := Lib.hid (by rw [hr5]; exact HV1.out)
        have HSx := Lib.hid hS5
        have HOx := Lib.hid hO5
        clear hcm hF5 hS5 hO5 hr5 HS1 HO1 h5 hfi hag p0 p1
        generalize (rewr t1 t1.r).2 = t2 at *
        have hsw := 0
        have hgt := HSx.out.get ask
        clear hsw
        go_wp2_with fail
        refine hgt.mono ?_
        rintro e w20 ⟨h20, hB20⟩
        obtain rfl := h20
        have HS20 := Lib.hid (HSx.out.below hB20)
        have HO20 := Lib.hid (HOx.out.below hB20 (Nat.le_refl _))
        clear hgt hB20 HSx HOx
        obtain ⟨A20, c20, hv20, hR20, -⟩ := HO20.out.rw
        subst hv20
        have HR20 := Lib.hid hR20
        have hfew := HS20.out.ok.inv.few
        have HGB := Lib.hid (hasK_get ask t2.r)
        clear hR20
        generalize getV ask t2.r = gv
        generalize getB ask t2.r = gb at *
        go_wp2
        go_loopg [16, 17] t2.r.length (fun ky s16 s17 wq => ∃ k : Nat, s17 = .int .i64 k ∧ s16 = .bool (hasK ask (t2.r.take k)) ∧ k ≤ t2.r.length ∧ t2.r.length - k ≤ ky ∧ w20 = wq)
        case atStart => exact ⟨0, rfl, rfl, by omega, by omega, rfl⟩
        case round =>
          obtain ⟨k, rfl, rfl, hkn, hky, rfl⟩ := hrel
          by_cases hk : k < t2.r.length
          · have hkI : (k : Int) < t2.r.length := by omega
            obtain ⟨ad20, rfl, _, r20⟩ := HR20.out.pick hk
            have q0 : w20.cell? (ad20.add (k * 2)) = some (.string ⟨t2.r[k].key.toArray⟩) := r20 0 _ rfl
            have HH := Lib.hid (hasK_step ask t2.r k hk)
            generalize t2.r[k].key = xk at *
            clear r20
            cases hb : hasK ask (t2.r.take k)
            · rw [hb] at HH
              by_cases he : xk = ask
              · subst he
                go_wp2
                go_roundg (t2.r.length - (k + 1))
                case measure => omega
                case rel => exact ⟨k + 1, by go_num, by rw [HH.out]; simp, by omega, Nat.le_refl _, rfl⟩
              · have heB : (xk == ask) = false := by rw [beq_eq_false_iff_ne]; exact he
                go_wp2
                go_roundg (t2.r.length - (k + 1))
                case measure => omega
                case rel => exact ⟨k + 1, by go_num, by rw [HH.out]; simp [he], by omega, Nat.le_refl _, rfl⟩
            · rw [hb] at HH
              go_wp2
              go_roundg (t2.r.length - (k + 1))
              case measure => omega
              case rel => exact ⟨k + 1, by go_num, by rw [HH.out]; simp, by omega, Nat.le_refl _, rfl⟩
          · have hkI : ¬ (k : Int) < t2.r.length := by omega
            have ht : t2.r.take k = t2.r := List.take_of_length_le (by omega)
            rw [ht, HGB.out]
            have hsm := same_any _ g f m5 sb1 v5 t2 _ _ t2.r w20 HS20.out.jr HS20.out.ok.inv HO20.out (fun c hc => HS20.out.ok.inv.recs.2 c hc) (by omega)
            clear ht
            go_wp2_with fail
            refine hsm.mono ?_
            rintro e w21 ⟨b21, rfl, hb21, hB21⟩
            obtain rfl : b21 = true := hb21.2 rfl
            have HS21 := Lib.hid (HS20.out.below hB21)
            have HO21 := Lib.hid (HO20.out.below hB21 (Nat.le_refl _))
            clear hsm hb21 hB21 HS20 HO20 HR20
            cases gb
            · go_wp2
              go_roundg (L.length - (i + 1))
              case measure => omega
              case rel => exact ⟨i + 1, by go_num, by omega, Nat.le_refl _, Lib.hid ⟨_, _, _, _, _, rfl, HS21.out, HO21.out, by have := HK1.out; rw [Nat.succ_mul]; omega, HVx.out⟩⟩
            · go_wp2
              go_roundg (L.length - (i + 1))
              case measure => omega
              case rel => exact ⟨i + 1, by go_num, by omega, Nat.le_refl _, Lib.hid ⟨_, _, _, _, _, rfl, HS21.out, HO21.out, by have := HK1.out; rw [Nat.succ_mul]; omega, HVx.out⟩⟩
      have hro := HS1.out.reopen He.out HE.out (by omega)
      go_wp2_with fail
      refine hro.mono ?_
      rintro e w5 ⟨sb5, v5, rfl, _, hB5, hS5⟩
      have HSx := Lib.hid hS5
      have HOx := Lib.hid (HO1.out.below hB5 (Nat.le_refl _))
      have HVx := HV1
      clear hro hB5 hS5 HS1 HO1 p0 p1 HV1
      have hsw := 0
      have hgt := HSx.out.get ask
      clear hsw
      go_wp2_with fail
      refine hgt.mono ?_
      rintro e w20 ⟨h20, hB20⟩
      obtain rfl := h20
      have HS20 := Lib.hid (HSx.out.below hB20)
      have HO20 := Lib.hid (HOx.out.below hB20 (Nat.le_refl _))
      clear hgt hB20 HSx HOx
      obtain ⟨A20, c20, hv20, hR20, -⟩ := HO20.out.rw
      subst hv20
      have HR20 := Lib.hid hR20
      have hfew := HS20.out.ok.inv.few
      have HGB := Lib.hid (hasK_get ask t1.r)
      clear hR20
      generalize getV ask t1.r = gv
      generalize getB ask t1.r = gb at *
      go_wp2
      go_loopg [16, 17] t1.r.length (fun ky s16 s17 wq => ∃ k : Nat, s17 = .int .i64 k ∧ s16 = .bool (hasK ask (t1.r.take k)) ∧ k ≤ t1.r.length ∧ t1.r.length - k ≤ ky ∧ w20 = wq)
      case atStart => exact ⟨0, rfl, rfl, by omega, by omega, rfl⟩
      case round =>
        obtain ⟨k, rfl, rfl, hkn, hky, rfl⟩ := hrel
        by_cases hk : k < t1.r.length
        · have hkI : (k : Int) < t1.r.length := by omega
          obtain ⟨ad20, rfl, _, r20⟩ := HR20.out.pick hk
          have q0 : w20.cell? (ad20.add (k * 2)) = some (.string ⟨t1.r[k].key.toArray⟩) := r20 0 _ rfl
          have HH := Lib.hid (hasK_step ask t1.r k hk)
          generalize t1.r[k].key = xk at *
          clear r20
          cases hb : hasK ask (t1.r.take k)
          · rw [hb] at HH
            by_cases he : xk = ask
            · subst he
              go_wp2
              go_roundg (t1.r.length - (k + 1))
              case measure => omega
              case rel => exact ⟨k + 1, by go_num, by rw [HH.out]; simp, by omega, Nat.le_refl _, rfl⟩
            · have heB : (xk == ask) = false := by rw [beq_eq_false_iff_ne]; exact he
              go_wp2
              go_roundg (t1.r.length - (k + 1))
              case measure => omega
              case rel => exact ⟨k + 1, by go_num, by rw [HH.out]; simp [he], by omega, Nat.le_refl _, rfl⟩
          · rw [hb] at HH
            go_wp2
            go_roundg (t1.r.length - (k + 1))
            case measure => omega
            case rel => exact ⟨k + 1, by go_num, by rw [HH.out]; simp, by omega, Nat.le_refl _, rfl⟩
        · have hkI : ¬ (k : Int) < t1.r.length := by omega
          have ht : t1.r.take k = t1.r := List.take_of_length_le (by omega)
          rw [ht, HGB.out]
          have hsm := same_any _ g f m1 sb5 v5 t1 _ _ t1.r w20 HS20.out.jr HS20.out.ok.inv HO20.out (fun c hc => HS20.out.ok.inv.recs.2 c hc) (by omega)
          clear ht
          go_wp2_with fail
          refine hsm.mono ?_
          rintro e w21 ⟨b21, rfl, hb21, hB21⟩
          obtain rfl : b21 = true := hb21.2 rfl
          have HS21 := Lib.hid (HS20.out.below hB21)
          have HO21 := Lib.hid (HO20.out.below hB21 (Nat.le_refl _))
          clear hsm hb21 hB21 HS20 HO20 HR20
          cases gb
          · go_wp2
            go_roundg (L.length - (i + 1))
            case measure => omega
            case rel => exact ⟨i + 1, by go_num, by omega, Nat.le_refl _, Lib.hid ⟨_, _, _, _, _, rfl, HS21.out, HO21.out, by have := HK1.out; rw [Nat.succ_mul]; omega, HVx.out⟩⟩
          · go_wp2
            go_roundg (L.length - (i + 1))
            case measure => omega
            case rel => exact ⟨i + 1, by go_num, by omega, Nat.le_refl _, Lib.hid ⟨_, _, _, _, _, rfl, HS21.out, HO21.out, by have := HK1.out; rw [Nat.succ_mul]; omega, HVx.out⟩⟩
    · have hltI : ¬ (i : Int) < L.length := by omega
      have HB9 := Lib.hid HS1.out.un
      go_wp2
      go_ret
      exact ⟨rfl, HB9.out⟩
end Go.Proofs.YtmpklljiddggpaaDoor
