/-
  The walk of the document's Name. Conditions: each theorem's own premises.
-/
import Derived.Test.YtacmibkcnmaagaaDoorQTxS
import Derived.Test.YtacmibkcnmaagaaDoorQTxN
namespace Go.Proofs.YtacmibkcnmaagaaDoor
open Go.Shelf Go.RowKit Go.Lib

theorem Ow.at2 {α : Type} {L : Lie α} {w : World} {base : Nat} {v : Value} {l : List α} (h : Ow L w base v l) (hl : l ≠ []) : ∃ g cap, v = .slice (some ⟨g, 0, none⟩) l.length cap ∧ base ≤ g ∧ g < w.heap.size ∧ l.length ≤ cap ∧
    ∀ (k : Nat) (hk : k < l.length) (j : Nat) (u : Value), (L.enc l[k])[j]? = some u → w.cell? ⟨g, k * L.n + j, none⟩ = some u := by
  rcases h.form with ⟨_, e⟩ | ⟨g, cap, cs, rfl, hb, hg, h1, h2, h3, h4⟩
  · exact absurd e hl
  · refine ⟨g, cap, rfl, hb, hg.lt, h1, fun k hk j u hu => ?_⟩
    have hj : j < L.n := by rw [← L.len l[k]]; exact (List.getElem?_eq_some_iff.1 hu).1
    have hc := L.cells_at l k hk j hj
    rw [hu, ← h4, List.getElem?_take] at hc
    split at hc
    · rw [hg.cell]; simpa using hc
    · cases hc

set_option maxRecDepth 100000 in
set_option maxHeartbeats 1000000 in
theorem rname_any (s : ByteArray) (w : World) (hs : s.size ≤ 1099511627775) : Calls Tryd.prog 11 #[.string s] w (RetN w (nameB s)) := by
  have HP := Lib.hid (pieces_any s w hs)
  by_cases h0 : s.size = 0
  · have hst : s = ⟨#[]⟩ := of_bytes (List.eq_nil_of_length_eq_zero (by simpa using h0))
    have hb : nameB s = false := by simp [nameB, h0]
    rw [hb]
    subst hst
    clear hb h0
    go_enter Tryd.func11, Tryd.ntmps11
    go_wp2_with fail
    refine HP.out.mono ?_
    rintro e w1 ⟨v, rfl, hO, hB⟩
    have HB := Lib.hid hB
    clear hO hB
    go_wp2
    go_ret
    exact ⟨rfl, HB.out⟩
  have hne : s.toList.isEmpty = false := by
    rw [ByteArray.toList_eq]
    simp only [List.isEmpty_eq_false_iff]
    intro e
    exact h0 (by simpa using congrArg List.length e)
  have h1s : 1 ≤ s.size := by omega
  by_cases h24 : 24 < s.size
  · have hb : nameB s = false := by simp [nameB]; omega
    rw [hb]
    clear hb h0
    go_enter Tryd.func11, Tryd.ntmps11
    go_wp2_with fail
    refine HP.out.mono ?_
    rintro e w1 ⟨v, rfl, hO, hB⟩
    have HB := Lib.hid hB
    clear hO hB
    go_wp2
    go_ret
    exact ⟨rfl, HB.out⟩
  have h24' : s.size ≤ 24 := by omega
  have hpl := pcs_len s.data.toList
  have hpn : pcs s.data.toList ≠ [] := by
    rw [show s.data.toList = s.data.toList.drop 0 by simp, pcs_drop s.data.toList 0 (by simpa using (by omega : 0 < s.size))]
    simp
  obtain ⟨d, t, hdt⟩ : ∃ d t, pcs s.data.toList = d :: t := by
    cases hp : pcs s.data.toList with
    | nil => exact absurd hp hpn
    | cons d t => exact ⟨d, t, rfl⟩
  have HN : Hid (nameB s = (!kwB s && (letB (d.1 : Int) && t.all fun q => ok1 true q.1))) := Lib.hid (by simp [nameB, h0, h24', hdt, nmR, ok1])
  have HLt := Lib.hid (fun (r : Nat) W => rletter_any (r : Int) W)
  have HDg := Lib.hid (fun (r : Nat) W => rdigit_any (r : Int) W)
  have HIs := Lib.hid (fun W => is_any s W)
  have HZ : Hid (t.length + 1 ≤ 24) := Lib.hid (by rw [hdt] at hpl; simp at hpl; omega)
  have HPc := Lib.hid hdt
  clear h0 h24 hpl hpn hdt
  go_enter Tryd.func11, Tryd.ntmps11
  go_wp2_with fail
  refine HP.out.mono ?_
  rintro e w1 ⟨v, rfl, hO, hB⟩
  have hne2 : pies 0 (pcs s.data.toList) ≠ [] := by rw [HPc.out]; simp [pies]
  obtain ⟨g, c, rfl, -, -, hlc, hcell⟩ := hO.at2 hne2
  have HCe : Hid (∀ W, Below w1.heap.size w1 W → ∀ (k : Nat) (q : Nat × Nat), (d :: t)[k]? = some q → W.cell? ⟨g, k * 4, none⟩ = some (.int .i32 (q.1 : Int))) := Lib.hid (by
    intro W hW k q hq
    have hk : k < (pies 0 (pcs s.data.toList)).length := by rw [pies_length, HPc.out]; exact (List.getElem?_eq_some_iff.1 hq).1
    have h1 := pies_get 0 (pcs s.data.toList) k _ (List.getElem?_eq_getElem hk)
    have hq2 : (pcs s.data.toList)[k]? = some q := by rw [HPc.out]; exact hq
    have h2 : (pies 0 (pcs s.data.toList))[k].2 = q := Option.some.inj (h1.symm.trans hq2)
    have h3 := hcell k hk 0 (.int .i32 (q.1 : Int)) (by rw [← h2]; rfl)
    exact (hW.cell (World.block_lt_of_cell? _ _ h3)).trans h3)
  have hpl : (pies 0 (pcs s.data.toList)).length = t.length + 1 := by rw [pies_length, HPc.out]; rfl
  rw [hpl] at hlc ⊢
  obtain ⟨n, hn⟩ : ∃ n, n = t.length + 1 := ⟨_, rfl⟩
  have HNl := Lib.hid hn
  have hnz : n ≤ 24 := by rw [hn]; exact HZ.out
  have hn1 : 1 ≤ n := by omega
  rw [← hn] at hlc ⊢
  have HB := Lib.hid hB
  clear hcell hne2 hO hB hpl hn
  have hc0 : w1.cell? ⟨g, 0, none⟩ = some (.int .i32 (d.1 : Int)) := by
    have := HCe.out w1 (Below.refl _ _) 0 d rfl
    simpa using this
  have HL0 := Lib.hid (fun W => HLt.out d.1 W)
  cases hl : letB (d.1 : Int)
  · rw [hl] at HL0
    have HV : Hid (nameB s = false) := Lib.hid (by rw [HN.out, hl]; simp)
    clear hl
    go_wp2_with fail
    refine (HL0.out _).mono ?_
    rintro e w2 ⟨rfl, rfl⟩
    go_wp2
    go_ret
    exact ⟨by rw [HV.out]; rfl, HB.out⟩
  rw [hl] at HL0
  have HV : Hid (nameB s = (!kwB s && t.all fun q => ok1 true q.1)) := Lib.hid (by rw [HN.out, hl]; simp)
  have HOk : Hid (ok1 true (d.1 : Int) = true) := Lib.hid (by simp [ok1, hl])
  clear hl
  obtain ⟨b, hb⟩ : ∃ b, b = kwB s := ⟨_, rfl⟩
  rw [← hb] at HIs HV
  clear hb
  go_wp2_with fail
  refine (HL0.out _).mono ?_
  rintro e w2 ⟨rfl, rfl⟩
  cases b
  · go_wp2_with fail
    refine (HIs.out _).mono ?_
    rintro e w2 ⟨rfl, hB2⟩
    have HB2 := Lib.hid hB2
    have HC2 : Hid (∀ (k : Nat) (q : Nat × Nat), (d :: t)[k]? = some q → w2.cell? ⟨g, k * 4, none⟩ = some (.int .i32 (q.1 : Int))) := Lib.hid (HCe.out w2 hB2)
    have HBz := Lib.hid (HB.out.trans (hB2.mono HB.out.size))
    clear hB2 hc0 HCe HB2 HB
    go_wp2_with fail
    go_loop [4] (fun x => ∃ k : Nat, k ≤ n ∧ x = .int .i64 (k : Int) ∧ nameB s = ((d :: t).drop k).all (fun q => ok1 true q.1)) (fun x => n - (RowKit.intOf x).toNat)
    case atStart => exact ⟨0, by omega, rfl, by rw [HV.out]; simp [HOk.out]⟩
    case round =>
      obtain ⟨k, hk, rfl, he⟩ := hrel
      have HE := Lib.hid he
      clear he
      by_cases hp : k < n
      · obtain ⟨q, hq⟩ : ∃ q, (d :: t)[k]? = some q := ⟨_, List.getElem?_eq_getElem (by have := HNl.out; simp; omega)⟩
        have hc := HC2.out k q hq
        have HS : Hid ((d :: t).drop k = q :: (d :: t).drop (k + 1)) := Lib.hid (by
          obtain ⟨h1, h2⟩ := List.getElem?_eq_some_iff.1 hq
          rw [List.drop_eq_getElem_cons h1, h2])
        have HL1 := Lib.hid (fun W => HLt.out q.1 W)
        have HD1 := Lib.hid (fun W => HDg.out q.1 W)
        obtain ⟨a, ha⟩ : ∃ a, a = q.1 := ⟨_, rfl⟩
        have HA := Lib.hid ha
        rw [← ha] at hc HL1 HD1
        clear ha hq
        cases hl : letB (a : Int)
        · rw [hl] at HL1
          cases hd : digB (a : Int)
          · rw [hd] at HD1
            by_cases h95 : a = 95
            · have h95' : ((a : Int) == 95) = true := by simp [h95]
              have HW : Hid (nameB s = ((d :: t).drop (k + 1)).all (fun q => ok1 true q.1)) := Lib.hid (by rw [HE.out, HS.out]; simp [← HA.out, ok1, h95])
              clear hl hd h95
              go_wp2_with fail
              refine (HL1.out _).mono ?_
              rintro e w' ⟨rfl, rfl⟩
              go_wp2_with fail
              refine (HD1.out _).mono ?_
              rintro e w' ⟨rfl, rfl⟩
              go_wp2
              go_round
              case rel => exact ⟨k + 1, by omega, by go_num, HW.out⟩
              case measure => simp [RowKit.intOf]; omega
            · have h95' : ((a : Int) == 95) = false := beq_eq_false_iff_ne.2 (by omega)
              have HW : Hid (nameB s = false) := Lib.hid (by rw [HE.out, HS.out]; simp [← HA.out, ok1, hl, hd]; omega)
              clear hl hd h95
              go_wp2_with fail
              refine (HL1.out _).mono ?_
              rintro e w' ⟨rfl, rfl⟩
              go_wp2_with fail
              refine (HD1.out _).mono ?_
              rintro e w' ⟨rfl, rfl⟩
              go_wp2
              go_ret
              exact ⟨by rw [HW.out]; rfl, HBz.out⟩
          · rw [hd] at HD1
            have HW : Hid (nameB s = ((d :: t).drop (k + 1)).all (fun q => ok1 true q.1)) := Lib.hid (by rw [HE.out, HS.out]; simp [← HA.out, ok1, hd])
            clear hl hd
            go_wp2_with fail
            refine (HL1.out _).mono ?_
            rintro e w' ⟨rfl, rfl⟩
            go_wp2_with fail
            refine (HD1.out _).mono ?_
            rintro e w' ⟨rfl, rfl⟩
            go_wp2
            go_round
            case rel => exact ⟨k + 1, by omega, by go_num, HW.out⟩
            case measure => simp [RowKit.intOf]; omega
        · rw [hl] at HL1
          have HW : Hid (nameB s = ((d :: t).drop (k + 1)).all (fun q => ok1 true q.1)) := Lib.hid (by rw [HE.out, HS.out]; simp [← HA.out, ok1, hl])
          clear hl HD1
          go_wp2_with fail
          refine (HL1.out _).mono ?_
          rintro e w' ⟨rfl, rfl⟩
          go_wp2
          go_round
          case rel => exact ⟨k + 1, by omega, by go_num, HW.out⟩
          case measure => simp [RowKit.intOf]; omega
      · have HW : Hid (nameB s = true) := Lib.hid (by rw [HE.out, List.drop_eq_nil_of_le (by have := HNl.out; simp; omega)]; rfl)
        go_wp2
        go_ret
        exact ⟨by rw [HW.out]; rfl, HBz.out⟩
  · have HW : Hid (nameB s = false) := Lib.hid (by rw [HV.out]; rfl)
    go_wp2_with fail
    refine (HIs.out _).mono ?_
    rintro e w2 ⟨rfl, hB2⟩
    have HB2 := Lib.hid hB2
    clear hB2
    go_wp2
    go_ret
    exact ⟨by rw [HW.out]; rfl, HB.out.trans (HB2.out.mono HB.out.size)⟩
end Go.Proofs.YtacmibkcnmaagaaDoor
