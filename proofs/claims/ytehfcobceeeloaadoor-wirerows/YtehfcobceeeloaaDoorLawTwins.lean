/-
  The walk of WireTwins: for every slice of int64 and every int it answers true, and nothing old is turned. Conditions: the three errors of wire lie where the program's text lays them.
-/
import Derived.Test.YtehfcobceeeloaaDoorSeq
namespace Go.Proofs.YtehfcobceeeloaaDoor
open Go.RowKit

/-- Where the first loop stands: so many integers are put. -/
def TwRel1 (w : World) (zs : List Int) (v i : Value) (wr : World) : Prop :=
  ∃ (k n c : Nat) (A : Option Addr), k ≤ zs.length ∧ i = .int .i64 (k : Int) ∧ v = .slice A n c ∧ n = (encL (zs.take k)).length ∧ Lies wr A (encL (zs.take k)) ∧ Below w.heap.size w wr
/-- Where the second and third loop stand: so many are read by one reader, the other stands where it stood. -/
def TwRel2 (w : World) (L : List UInt8) (zs : List Int) (g h q m : Nat) (i : Value) (wr : World) : Prop :=
  ∃ k : Nat, k ≤ m ∧ i = .int .i64 (k : Int) ∧ Rd wr g L (encL (zs.take k)).length .nilIface ∧ Rd wr h L q .nilIface ∧ Low wr h (g + 1) ∧ Below w.heap.size w wr

def TwRel3 (w : World) (L : List UInt8) (zs : List Int) (g h q m : Nat) (i : Value) (wr : World) : Prop :=
  ∃ k : Nat, k ≤ m ∧ i = .int .i64 (k : Int) ∧ Rd wr h L (encL (zs.take k)).length .nilIface ∧ Rd wr g L q .nilIface ∧ Below w.heap.size w wr

set_option maxRecDepth 100000 in
set_option maxHeartbeats 1000000 in
theorem twins_short (A : Option Addr) (n c : Nat) (x : Int) (w : World) (h : 20 < n) :
    Calls Tryd.prog 8 #[.slice A n c, .int .i64 x] w (RetYes w) := by
  have hd : decide ((20 : Int) < (n : Int)) = true := decide_eq_true (by omega)
  go_enter Tryd.func8, Tryd.ntmps8
  go_wp2_with fail
  refine (first_any w).mono ?_
  rintro e w1 ⟨rfl, hB⟩
  go_wp2
  go_ret
  exact RetYes.mk hB

theorem cell_beside' {w w' : World} {g : Nat} {p : Addr} {v : Value} (hg : w.grownBy w' (some g)) (hp : p.block ≠ g) (hc : w.cell? p = some v) : w'.cell? p = some v := hg.cell hc (by simpa using hp)
theorem Rd.lt {w : World} {g : Nat} {l : List UInt8} {k : Nat} {er : Value} (hr : Rd w g l k er) : g < w.heap.size := by
  obtain ⟨A, n, c, hb, _⟩ := hr
  exact Blk.lt hb
theorem Rd.grown {w w' : World} {g h : Nat} {l : List UInt8} {k : Nat} {er : Value} (hr : Rd w g l k er) (hg : w.grownBy w' (some h)) (hne : g ≠ h) (hlt : ∀ A n c, w.heap[g]? = some (.cells #[.slice A n c, .int .i64 (k : Int), er] 51 (0, 0)) → Str w g A l → Str w' g A l) : Rd w' g l k er := by
  obtain ⟨A, n, c, hb, hn, hs, r⟩ := hr
  exact ⟨A, n, c, Blk.grown hb hg (by simpa using hne), hn, hlt A n c hb hs, r⟩
/-- What lies below both readers stays. -/
theorem Rd.beside {w w' : World} {g h : Nat} {l : List UInt8} {k : Nat} {er : Value} (hr : Rd w g l k er) (hg : w.grownBy w' (some h)) (hgh : g < h) : Rd w' g l k er :=
  hr.grown hg (by omega) fun _ _ _ hb hs => hs.keep fun p hp => World.cell?_of_block (hg.block p.block (by have := Blk.lt hb; omega) (by simp; omega))

theorem Low.grown {w w' : World} {g h b : Nat} (hl : Low w h b) (hlt : h < w.heap.size) (hg : w.grownBy w' (some g)) (hne : h ≠ g) : Low w' h b := by
  intro A n c x y hb
  rw [hg.block h hlt (by simpa using hne)] at hb
  exact hl A n c x y hb
theorem Low.later {w w' : World} {h b : Nat} (hl : Low w h b) (hlt : h < w.heap.size) (hg : Below w.heap.size w w') : Low w' h b := by
  intro A n c x y hb
  rw [hg.block h hlt] at hb
  exact hl A n c x y hb
/-- A reader that was made behind another one stays where that one goes on. -/
theorem Rd.behind {w w' : World} {g h b : Nat} {l : List UInt8} {k : Nat} {er : Value} (hr : Rd w h l k er) (hl : Low w h b) (hg : w.grownBy w' (some g)) (hgb : g < b) (hgh : g < h) : Rd w' h l k er :=
  hr.grown hg (by omega) fun A n c hb hs => ⟨fun hne => by
    obtain ⟨ad, rfl, hB, hc⟩ := hs.here hne
    have hlow := hl _ _ _ _ _ hb ad rfl
    exact ⟨ad, rfl, hB, fun j u hu => cell_beside' hg (by rw [add_block]; omega) (hc j u hu)⟩⟩
theorem Rd.drew {w : World} {g : Nat} {l : List UInt8} {k : Nat} {er : Value} (h : Rd w g l k er) : Rd w.drew g l k er := by
  obtain ⟨A, m, c, hb, hn, hs, r⟩ := h
  exact ⟨A, m, c, hb, hn, hs.keep fun _ _ => rfl, r⟩
theorem Errs.drew {w : World} {aE aS aR : Addr} (h : Errs w aE aS aR) : Errs w.drew aE aS aR := h.same fun _ => rfl
theorem cell_beside {w w' : World} {g : Nat} {p : Addr} {v : Value} (hg : w.grownBy w' (some g)) (hp : p.block < g) (hc : w.cell? p = some v) : w'.cell? p = some v := hg.cell hc (by simp; omega)

set_option maxRecDepth 100000 in
set_option maxHeartbeats 4000000 in
theorem twins_long (A : Option Addr) (n c : Nat) (zs : List Int) (x : Int) (w : World) (aE aS aR : Addr) (hn : n = zs.length) (hnl : n ≤ 20) (hs : Ints w w.heap.size A zs) (he : Errs w aE aS aR) :
    Calls Tryd.prog 8 #[.slice A n c, .int .i64 x] w (RetYes w) := by
  have hd : decide ((20 : Int) < (n : Int)) = false := decide_eq_false (by omega)
  have HN := Lib.hid hn
  clear hn
  go_enter Tryd.func8, Tryd.ntmps8
  go_wp2_with fail
  refine (first_any w).mono ?_
  rintro e w1 ⟨rfl, hB1⟩
  go_wp2_with fail
  go_loopw [6, 7] (fun v i wr => TwRel1 w zs v i wr) (fun _ i _ => n - (intOf i).toNat)
  case atStart => exact ⟨0, 0, 0, none, Nat.zero_le _, rfl, rfl, rfl, ⟨Str.nil⟩, hB1⟩
  case round =>
    obtain ⟨k, n2, c2, A2, hk, rfl, rfl, hn2, hL, hB⟩ := hrel
    have H2 := Lib.hid hn2
    have hn2l : n2 ≤ 200 := by
      have := encL_length (zs.take k); have h := HN.out
      simp only [List.length_take] at this
      omega
    clear hn2
    by_cases hlt : k < n
    · have hkz : k < zs.length := by have := HN.out; omega
      obtain ⟨ad, hA, hb, hc⟩ := hs.pick hkz
      have hc' := (hB.cell (p := ad.add k) (by rw [add_block]; exact hb)).trans hc
      have hwd := hs.wide zs[k] (List.getElem_mem hkz)
      obtain ⟨z, hz⟩ : ∃ z, z = zs[k] := ⟨_, rfl⟩
      rw [← hz] at hc' hwd
      have HZ := Lib.hid hz
      clear hc hz
      subst hA
      go_wp2_with fail
      refine (put_any A2 n2 c2 _ z wr H2.out (by omega) hL.str hwd.1 hwd.2).mono ?_
      rintro e w3 ⟨A3, n3, c3, rfl, HN3, ho3, hC3⟩
      have R : Lies w3 A3 (encL (zs.take (k + 1))) := ⟨by rw [encL_snoc zs k hkz, ← HZ.out]; exact ho3.str⟩
      have hB3 := hB.trans (hC3.mono hB.size)
      have HN4 : Hid (n3 = (encL (zs.take (k + 1))).length) := Lib.hid (by rw [encL_snoc zs k hkz, ← HZ.out]; exact HN3.out)
      clear ho3 hC3 HN3 hL
      go_wp2
      go_roundw
      case rel => exact ⟨k + 1, n3, c3, A3, by omega, by go_num, rfl, HN4.out, R, hB3⟩
      case measure => simp [intOf]; omega
    · have hkz : k = zs.length := by have := HN.out; omega
      obtain ⟨L, hLe⟩ : ∃ L, L = encL zs := ⟨_, rfl⟩
      have e1 : encL (zs.take k) = L := by rw [hkz, List.take_length, hLe]
      rw [e1] at hL H2
      have HK := Lib.hid hkz
      have HL := Lib.hid hLe
      clear hkz hLe e1
      go_wp2_with fail
      refine (newReader_any A2 n2 c2 L wr H2.out (by omega) hL.str).mono ?_
      rintro e w3 ⟨g, rfl, hX, _, hg, hC3⟩
      have hB3 := hB.trans (hC3.mono hB.size)
      have hL3 := hL.later hC3
      go_wp2_with fail
      refine (newReader_any A2 n2 c2 L w3 H2.out (by omega) hL3.str).mono ?_
      rintro e w4 ⟨h, rfl, hY, hYl, hh, hC4⟩
      have hB4 := hB3.trans (hC4.mono hB3.size)
      have hX4 := hX.later hC4
      have hgw3 := hX.lt
      have hgh : g < h := by omega
      have hYl4 : Low w4 h (g + 1) := fun A n c x y hb ad hA => Nat.le_trans hgw3 (hYl A n c x y hb ad hA)
      clear hYl
      have hgw : w.heap.size ≤ g := Nat.le_trans hB.size hg
      clear hX hL hL3 hC3 hC4
      go_wp2_with fail
      refine (number_any x _ w4 (by omega) (by omega)).mono ?_
      rintro e w5 ⟨rfl, rfl⟩
      have hm1 := Int.emod_nonneg x (by omega : ((n : Int) + 1) ≠ 0)
      have hm2 := Int.emod_lt_of_pos x (by omega : 0 < (n : Int) + 1)
      obtain ⟨m, hm⟩ := Int.eq_ofNat_of_zero_le hm1
      rw [hm] at hm1 hm2
      rw [hm]
      have HM := Lib.hid hm
      clear hm hm1 HK
      go_wp2_with fail
      go_loopw [11] (fun i wr => TwRel2 w L zs g h 0 m i wr) (fun i _ => m - (intOf i).toNat)
      case atStart => exact ⟨0, Nat.zero_le _, rfl, hX4, hY, hYl4, hB4⟩
      case round =>
        clear hX4 hY hB4 hB3 hB hYl4
        obtain ⟨j, hj, rfl, hX, hY, hYl, hB⟩ := hrel
        by_cases hlt2 : j < m
        · have hkz : j < zs.length := by have := HN.out; omega
          obtain ⟨ad, hA, hb, hc⟩ := hs.pick hkz
          have hc' := (hB.cell (p := ad.add j) (by rw [add_block]; exact hb)).trans hc
          have hwd := hs.wide zs[j] (List.getElem_mem hkz)
          have hdr := encL_drop zs j hkz
          have hsn := encL_snoc zs j hkz
          obtain ⟨z, hz⟩ : ∃ z, z = zs[j] := ⟨_, rfl⟩
          rw [← hz] at hc' hwd hdr hsn
          have hlen : (encL (zs.take (j + 1))).length = (encL (zs.take j)).length + (enc z).length := by rw [hsn, List.length_append]
          have HLEN := Lib.hid hlen
          have HDR := Lib.hid hdr
          have heW := he.below hB
          clear hc hz hdr hsn hlen
          subst hA
          have hXd := hX.drew
          have heD := heW.drew
          have hjn : j < n := by have := HN.out; omega
          have hji : (j : Int) < (n : Int) := by omega
          have hj0 : (0 : Int) ≤ (j : Int) := by omega
          have hbg : (ad.add j).block < g := by rw [add_block]; omega
          go_wp2_with fail
          go_region_held3 (fun W => W.cell? (ad.add j) = some (.int .i64 z)) (go_keep) (first | (go_at_call 17; refine (num_read g L _ _ _ z _ _ _ aE aS aR hXd heD (by rw [HL.out]; exact HDR.out) HLEN.out hwd.1 hwd.2 hwd.1 hwd.2).mono ?_; rintro e w6 ⟨rfl, hG6, hX6⟩; have hcS := cell_beside hG6 hbg hc'))
          have R : TwRel2 w L zs g h 0 m (.int .i64 ((j : Int) + 1)) w6 :=
            ⟨j + 1, by omega, by go_num, hX6, hY.drew.behind (show Low wr.drew h (g + 1) from hYl) hG6 (by omega) hgh, Low.grown (w := wr.drew) hYl hY.lt hG6 (by omega), grown_below hB.drew hG6 hB.size hgw⟩
          clear hX6 hG6 hXd hX hY hYl
          go_wp2
          go_roundw
          case rel => exact R
          case measure => simp [intOf]; omega
        · have hjm : j = m := by omega
          rw [hjm] at hX
          have hjb : decide (j < m) = false := decide_eq_false (by omega)
          clear hjm hjb
          go_wp2_with fail
          go_loopw [12] (fun i wr => TwRel3 w L zs g h (encL (zs.take m)).length n i wr) (fun i _ => n - (intOf i).toNat)
          case atStart => exact ⟨0, Nat.zero_le _, rfl, hY, hX, hB⟩
          case round =>
            clear hX hY hB hYl
            obtain ⟨i, hi, rfl, hY, hX, hB⟩ := hrel
            by_cases hlt3 : i < n
            · have hkz : i < zs.length := by have := HN.out; omega
              obtain ⟨ad, hA, hb, hc⟩ := hs.pick hkz
              have hc' := (hB.cell (p := ad.add i) (by rw [add_block]; exact hb)).trans hc
              have hwd := hs.wide zs[i] (List.getElem_mem hkz)
              have hdr := encL_drop zs i hkz
              have hsn := encL_snoc zs i hkz
              obtain ⟨z, hz⟩ : ∃ z, z = zs[i] := ⟨_, rfl⟩
              rw [← hz] at hc' hwd hdr hsn
              have hlen : (encL (zs.take (i + 1))).length = (encL (zs.take i)).length + (enc z).length := by rw [hsn, List.length_append]
              have HLEN := Lib.hid hlen
              have HDR := Lib.hid hdr
              have heW := he.below hB
              clear hc hz hdr hsn hlen
              subst hA
              have hYd := hY.drew
              have heD := heW.drew
              have hji : (i : Int) < (n : Int) := by omega
              have hj0 : (0 : Int) ≤ (i : Int) := by omega
              have hbh : (ad.add i).block < h := by rw [add_block]; omega
              go_wp2_with fail
              go_region_held3 (fun W => W.cell? (ad.add i) = some (.int .i64 z)) (go_keep) (first | (go_at_call 17; refine (num_read h L _ _ _ z _ _ _ aE aS aR hYd heD (by rw [HL.out]; exact HDR.out) HLEN.out hwd.1 hwd.2 hwd.1 hwd.2).mono ?_; rintro e w6 ⟨rfl, hG6, hY6⟩; have hcS := cell_beside hG6 hbh hc'))
              have R : TwRel3 w L zs g h (encL (zs.take m)).length n (.int .i64 ((i : Int) + 1)) w6 :=
                ⟨i + 1, by omega, by go_num, hY6, hX.drew.beside hG6 hgh, grown_below hB.drew hG6 hB.size (by omega)⟩
              clear hY6 hG6 hYd hX hY
              go_wp2
              go_roundw
              case rel => exact R
              case measure => simp [intOf]; omega
            · have hin : i = zs.length := by have := HN.out; omega
              have hyz : (0 : Int) = ((L.length - (encL (zs.take i)).length : Nat) : Int) := by
                rw [HL.out, hin, List.take_length]; simp
              have hxl := encL_le zs m
              have hfull := encL_full zs m (by have := HN.out; omega)
              rw [← HL.out] at hxl hfull
              obtain ⟨q, hq⟩ : ∃ q, q = (encL (zs.take m)).length := ⟨_, rfl⟩
              rw [← hq] at hX hxl hfull
              obtain ⟨d, hd2⟩ : ∃ d, d = L.length - q := ⟨_, rfl⟩
              rw [← hd2] at hfull
              have HF := Lib.hid hfull
              have HY0 := Lib.hid hyz
              have hn2e : (n2 : Int) = (q : Int) + (d : Int) := by have := H2.out; omega
              have H2E := Lib.hid hn2e
              have hql : q ≤ 200 := by omega
              have hdl : d ≤ 200 := by omega
              have HD := Lib.hid hd2
              have hb1 : ((q : Int) + (d : Int) == (n2 : Int)) = true := beq_iff_eq.2 (by omega)
              clear hfull hyz hn2e hd2 hxl hin hq
              go_wp2_with fail
              refine (at_any g L q _ wr hX).mono ?_
              rintro e w7 ⟨rfl, rfl⟩
              go_wp2_with fail
              refine (left_val g L q _ wr (d : Int) hX (by rw [HD.out])).mono ?_
              rintro e w8 ⟨rfl, m8, rfl⟩
              have hX8 := hX.drewN m8
              have hY8 := hY.drewN m8
              have hB8 := below_drewN hB m8
              clear hX hY hB
              go_wp2_with fail
              refine (left_val h L _ _ _ 0 hY8 HY0.out).mono ?_
              rintro e w9 ⟨rfl, m9, rfl⟩
              have hX9 := hX8.drewN m9
              have hB9 := below_drewN hB8 m9
              clear hX8 hY8 hB8
              rw [World.drewN_drewN] at hX9 hB9
              go_wp2_with fail
              refine (err_nil g L q _ hX9).mono ?_
              rintro e w10 ⟨rfl, rfl⟩
              go_wp2_with fail
              refine (left_val g L q _ _ (d : Int) hX9 (by rw [HD.out])).mono ?_
              rintro e w11 ⟨rfl, m11, rfl⟩
              have hB11 := below_drewN hB9 m11
              rw [World.drewN_drewN] at hB11
              have hbb : ((d : Int) == 0) = ((m : Int) == (n : Int)) := by
                have h1 := HF.out; have h2 := HN.out
                rw [Bool.eq_iff_iff, beq_iff_eq, beq_iff_eq]
                omega
              by_cases hmn : m = n
              · have hbm : ((m : Int) == (n : Int)) = true := beq_iff_eq.2 (by omega)
                have hbd : ((d : Int) == 0) = true := hbb.trans hbm
                clear hbb
                have HMN := Lib.hid hmn
                clear hmn
                go_wp2
                go_ret
                exact RetYes.mk hB11
              · have hbm : ((m : Int) == (n : Int)) = false := beq_eq_false_iff_ne.2 (by omega)
                have hbd : ((d : Int) == 0) = false := hbb.trans hbm
                clear hbb
                go_wp2
                go_ret
                exact RetYes.mk hB11
end Go.Proofs.YtehfcobceeeloaaDoor
