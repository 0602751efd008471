/-
  The walk of JourMany. Conditions: each theorem's own premises.
-/
import Derived.Test.YtmpklljiddggpaaDoorQCh3
import Derived.Test.YtmpklljiddggpaaDoorQJpP
namespace Go.Proofs.YtmpklljiddggpaaDoor
open Go.Shelf Go.RowKit Go.Lib Go.Sort
attribute [local go_sem] Oper.semAt_some

def manyC (i : Nat) : Chg := ⟨[107, 101, 121] ++ dig i, [118], false⟩
def manyL (n : Nat) : List Chg := (List.range n).map manyC
theorem manyL_length (n : Nat) : (manyL n).length = n := by simp [manyL]
theorem manyL_next (n : Nat) : manyL (n + 1) = manyL n ++ [manyC n] := by simp [manyL, List.range_succ]
theorem manyL_mem {n : Nat} {c : Chg} (h : c ∈ manyL n) : ∃ i, i < n ∧ c = manyC i := by
  obtain ⟨i, hi, rfl⟩ := List.mem_map.1 h
  exact ⟨i, List.mem_range.1 hi, rfl⟩
theorem manyL_apart (n : Nat) : Apart (manyL n) := by
  unfold Apart manyL
  rw [List.pairwise_map]
  refine List.Pairwise.imp ?_ List.nodup_range
  intro a b hne h
  exact hne (dig_inj (by simpa [manyC] using h))
def moreC : Chg := ⟨[109, 111, 114, 101], [], false⟩
def lastL : List Chg := [⟨[107, 101, 121, 48], [], true⟩, ⟨[109, 111, 114, 101], [119], false⟩]
theorem many_ok {n : Nat} (h : n ≤ 301) : (manyL n).any badKey = false ∧ (manyL n).any badVal = false ∧ Vals 1 (manyL n) ∧ ∀ c ∈ manyL n, c.gone = false := by
  refine ⟨List.any_eq_false.2 fun c hc => ?_, List.any_eq_false.2 fun c hc => ?_, fun c hc => ?_, fun c hc => ?_⟩ <;> obtain ⟨i, hi, rfl⟩ := manyL_mem hc
  · have := dig_length (n := i) (by omega)
    simp only [badKey, manyC, Bool.or_eq_true, decide_eq_true_eq, List.length_append, List.length_cons, List.length_nil, not_or]
    omega
  · simp [badVal, manyC]
  · simp [manyC]
  · rfl
theorem many_first {n K : Nat} {t : St} (h : Ok 8192 K t) (hr : t.r = []) (hn : n ≤ 300) : (256 < n → comm t (manyL n) = (.many, t)) ∧ (n ≤ 256 → (comm t (manyL n)).1 = .fine ∧ (comm t (manyL n)).2.r = aft (manyL n) ∧ (aft (manyL n)).length = n ∧ Vals 1 (aft (manyL n)) ∧ ∀ c ∈ aft (manyL n), c.gone = false) := by
  obtain ⟨h1, h2, h3, h4⟩ := many_ok (n := n) (by omega)
  have hl := aft_apart (manyL_apart n) h4
  rw [manyL_length] at hl
  have he : aft (t.r ++ manyL n) = aft (manyL n) := by rw [hr]; rfl
  refine ⟨fun hb => ?_, fun hb => ?_⟩
  · have hef := aft_eff h.inv.recs (manyL n)
    unfold comm
    rw [hef, he, hl, h1, h2, if_neg (by simp), if_neg (by simp), if_pos hb]
  · have hv : Vals 1 (aft (manyL n)) := fun c hc => h3 c (aft_mem hc)
    have hf := h.fine h1 h2 (by rw [he, hl]; exact hb) (by rw [he]; exact vals_room (b := 1) (by rw [← he]; exact aft_ok h h1 h2) hv (by omega) (by omega))
    exact ⟨hf, ((h.step (by omega) _).2.2.1 hf).trans he, hl, hv, fun c hc => h4 c (aft_mem hc)⟩
theorem more_says {n K : Nat} {t : St} (h : Ok 8192 K t) (hr : t.r = aft (manyL n)) (hl : t.r.length = n) (hn : n ≤ 256) : (n < 256 → (comm t [moreC]).1 = .fine ∧ (comm t [moreC]).2.r = aft (t.r ++ [moreC])) ∧ (n = 256 → comm t [moreC] = (.many, t)) := by
  have h4 := (many_ok (n := n) (by omega)).2.2.2
  have hv : Vals 1 t.r := fun c hc => (many_ok (n := n) (by omega)).2.2.1 c (by rw [hr] at hc; exact aft_mem hc)
  have hlen : (aft (t.r ++ [moreC])).length = n + 1 := by
    have hins : aft (t.r ++ [moreC]) = insC moreC t.r := (put_all h.inv.recs [moreC]).symm
    rw [hins, insC_more, hl]
    intro x hx
    rw [hr] at hx
    obtain ⟨i, hi, rfl⟩ := manyL_mem (aft_mem hx)
    simp [manyC, moreC]
  have h1 : ([moreC] : List Chg).any badKey = false := rfl
  have h2 : ([moreC] : List Chg).any badVal = false := rfl
  refine ⟨fun hb => ?_, fun hb => ?_⟩
  · have hv2 : Vals 1 [moreC] := fun c hc => by
      obtain rfl := List.mem_singleton.1 hc
      simp [moreC]
    have hf := h.fine h1 h2 (by omega) (vals_room (b := 1) (aft_ok h h1 h2) (hv.aft hv2) (by omega) (by omega))
    exact ⟨hf, (h.step (by omega) _).2.2.1 hf⟩
  · have hef := aft_eff h.inv.recs [moreC]
    unfold comm
    rw [hef, hlen, h1, h2, if_neg (by simp), if_neg (by simp), if_pos (by omega)]
theorem last_says {K : Nat} {t : St} (h : Ok 8192 K t) (hv : Vals 1 t.r) (hk : ∃ x ∈ t.r, x.key = [107, 101, 121, 48]) : (comm t lastL).1 = .fine := by
  have hlen : (aft (t.r ++ lastL)).length ≤ 256 := by
    have hp : aft (t.r ++ lastL) = insC ⟨[109, 111, 114, 101], [119], false⟩ (t.r.filter fun x => !decide (x.key = [107, 101, 121, 48])) := (put_all h.inv.recs lastL).symm
    rw [hp]
    obtain ⟨x, hx, hxk⟩ := hk
    have h1 := insC_le ⟨[109, 111, 114, 101], [119], false⟩ (t.r.filter fun x => !decide (x.key = [107, 101, 121, 48]))
    have h2 : (t.r.filter fun x => !decide (x.key = [107, 101, 121, 48])).length < t.r.length := List.length_filter_lt_length_iff_exists.2 ⟨x, hx, by simp [hxk]⟩
    have h3 := h.inv.few
    omega
  have h1 : lastL.any badKey = false := rfl
  have h2 : lastL.any badVal = false := rfl
  have hv2 : Vals 1 lastL := fun c hc => by
    rcases List.mem_cons.1 hc with rfl | hc
    · simp
    · obtain rfl := List.mem_singleton.1 hc
      simp
  exact h.fine h1 h2 hlen (vals_room (b := 1) (aft_ok h h1 h2) (hv.aft hv2) hlen (by omega))
theorem key0_in {n : Nat} (h : 1 ≤ n) (hn : n ≤ 300) : ∃ x ∈ aft (manyL n), x.key = [107, 101, 121, 48] := by
  have h4 := (many_ok (n := n) (by omega)).2.2.2
  obtain ⟨x, hx, he⟩ := key_stays h4 (c := manyC 0) (List.mem_map.2 ⟨0, List.mem_range.2 (by omega), rfl⟩)
  refine ⟨x, hx, he.trans ?_⟩
  show [107, 101, 121] ++ dig 0 = _
  unfold dig
  rw [Lib.decDigits_one (by omega)]
  rfl
set_option maxRecDepth 100000 in
set_option maxHeartbeats 4000000 in
theorem jmany_any (n : Int) (w : World) (ads : List Addr) (hS : Sents w ads) (hT : Tab w) :
    Calls Tryd.prog 6 #[.int .i64 n] w (RetYes w) := by
  have HE := Lib.hid (es_of hS)
  have He := Lib.hid (errs_of hS)
  have HS := Lib.hid hS
  have HT := Lib.hid hT
  have hch := chap_any w _ _ _ _ _ _ He.out HE.out
  clear hS hT
  go_enter Tryd.func6, Tryd.ntmps6
  go_wp2_with fail
  refine hch.mono ?_
  rintro e w1 ⟨rfl, hB1⟩
  have HB1 := Lib.hid hB1
  clear hch hB1
  have hnu := number_any n 300 w1 (by omega) (by omega)
  have hq : 0 ≤ n % 300 ∧ n % 300 < 300 := ⟨Int.emod_nonneg _ (by omega), Int.emod_lt_of_pos _ (by omega)⟩
  go_wp2_with fail
  refine hnu.mono ?_
  rintro e w2 ⟨rfl, rfl⟩
  clear hnu
  obtain ⟨N, hN⟩ : ∃ N : Nat, n % 300 + 1 = (N : Int) := ⟨(n % 300 + 1).toNat, by omega⟩
  have hN1 : 1 ≤ N ∧ N ≤ 300 := by omega
  generalize n % 300 = q at *
  obtain rfl : q = (N : Int) - 1 := by omega
  clear hN hq
  have hop := opened_any 8192 w1 _ _ _ _ _ _ (by omega) (by omega) (He.out.below HB1.out (Nat.le_refl _)) (HE.out.fr ((Fr.refl [] w).belows HB1.out (Nat.le_refl _)) (by simp))
  go_wp2_with fail
  refine hop.mono ?_
  intro e w2 h2
  obtain ⟨g, f, m, sb, v, rfl, hSt⟩ := h2.sto HB1.out
  have HSt := Lib.hid hSt
  have HT2 := Lib.hid (HT.out.below hSt.un)
  have HR0 := Lib.hid (show (newSt 8192).r = [] from rfl)
  have HR0' := HR0
  generalize newSt 8192 = t0 at *
  clear h2 hop hSt HB1 HT
  go_wp2
  go_loopg [6, 7] N (fun kx s6 s7 wr => ∃ i : Nat, s7 = .int .i64 i ∧ i ≤ N ∧ N - i ≤ kx ∧ Hid (Ow LCh wr w2.heap.size s6 (manyL i)) ∧ Hid (Below w2.heap.size w2 wr))
  case atStart => exact ⟨0, rfl, by omega, by omega, Lib.hid (Ow.nil _ _ _), Lib.hid (Below.refl _ _)⟩
  case round =>
    obtain ⟨i, rfl, hin, hix, HO, HB⟩ := hrel
    by_cases hlt : i < N
    · have hltI : (i : Int) < N := by omega
      have hnum := num_any' i wr (by omega) (HT2.out.below HB.out)
      have hdl := dig_length (n := i) (by omega)
      go_wp2_with fail
      refine hnum.mono ?_
      rintro e w3 ⟨rfl, hB3⟩
      have HB3 := Lib.hid (HB.out.trans (hB3.mono HB.out.size))
      have HO3 := Lib.hid (HO.out.below hB3 (Nat.le_refl _))
      obtain ⟨v5, w5, hrun, hO5, _, hB5⟩ := append_ow_one LChat (manyC i) HO3.out (by rw [manyL_length]; omega) HB3.out.size
      have HO5 := Lib.hid hO5
      have HB5 := Lib.hid (HB3.out.trans (hB5 w2.heap.size HB3.out.size fun j hj => (HO3.out.block j hj).1))
      have hrun' : ∀ ty, (Builtin.append_ #[30, 30] ty #[_, .slice (some ⟨w3.heap.size, 0, none⟩) 1 1]).run Tryd.prog (w3.alloc (.cells #[.string ⟨([107, 101, 121] ++ dig i).toArray⟩, .string ⟨#[118]⟩, .bool false] 52)) = .ok v5 w5 := hrun
      generalize dig i = dg at *
      clear hrun hO5 hB5 hnum hB3 HO HB
      go_wp2_with (first | (at_builtin; refine Lib.wpList_append_run _ rfl _ _ _ _ rfl _ _ rfl rfl _ _ (hrun' _) ?_) | go_in)
      go_roundg (N - (i + 1))
      case measure => omega
      case rel => exact ⟨i + 1, by go_num, by omega, Nat.le_refl _, Lib.hid (by rw [manyL_next]; exact HO5.out), HB5⟩
    · have hltI : ¬ (i : Int) < N := by omega
      obtain rfl : i = N := by omega
      obtain ⟨A4, c4, rfl, hC4, hz4⟩ := HO.out.chs3
      have hcm := Sto.commit (HSt.out.below HB.out) He.out HE.out (by omega) (by omega) hC4 hz4 (by rw [manyL_length]; omega)
      rw [manyL_length] at hcm ⊢
      have hda := many_first HSt.out.ok HR0.out hN1.2
      have HDa := Lib.hid hda
      clear hda hC4 hz4 HO HB HSt HR0
      go_wp2_with fail
      refine hcm.mono ?_
      intro e w4 h4
      obtain ⟨m4, v4, _, h4, _, hS4⟩ := h4
      have HS4 := Lib.hid hS4
      clear hcm hS4
      by_cases hbig : 256 < i
      · have hbigI : (256 : Int) < i := by omega
        have hd := HDa.out.1 hbig
        rw [hd] at h4 HS4
        obtain rfl : e = .returned (resV (ads.getD 3 default) (ads.getD 18 default) (ads.getD 17 default) (ads.getD 2 default) .many) := h4
        have his := is_res w4 ads .many (HS4.out.sents HS.out)
        unfold resV codeR at his
        unfold resV
        clear hd HDa
        go_wp2_with fail
        refine his.mono ?_
        rintro e w5 ⟨rfl, hB5⟩
        have hS5 := HS4.out.below hB5
        have hk := hS5.keys
        have HS5 := Lib.hid hS5
        rw [show t0.r = [] from HR0'.out] at hk
        clear his hB5 hS5 HS4
        go_wp2_with fail
        refine hk.mono ?_
        rintro e w6 ⟨v6, rfl, hO6, hB6⟩
        obtain ⟨A6, c6, hv6, -⟩ := hO6.rw
        obtain rfl : v6 = .slice A6 0 c6 := hv6
        have HB6 := Lib.hid (HS5.out.un.trans (hB6.mono HS5.out.un.size))
        clear hk hO6 hB6
        go_wp2
        go_ret
        exact ⟨rfl, HB6.out⟩
      · have hbigI : ¬ (256 : Int) < i := by omega
        obtain ⟨d1, d2, d3, d4, d5⟩ := HDa.out.2 (by omega)
        obtain rfl : e = .returned .nilIface := by rw [d1] at h4; exact h4
        have HKy := Lib.hid (key0_in hN1.1 hN1.2)
        generalize (comm t0 (manyL i)).2 = t1 at *
        have hms := more_says HS4.out.ok d2 (by rw [d2]; exact d3) (by omega)
        have HMs := Lib.hid hms
        have HR1 := Lib.hid d2
        have HV1 : Hid (Vals 1 t1.r) := Lib.hid (by rw [d2]; exact d4)
        have HG1 : Hid (∀ c ∈ t1.r, c.gone = false) := Lib.hid (by rw [d2]; exact d5)
        have hb5 : Below w4.heap.size w4 (w4.alloc (.cells #[.string ⟨#[109, 111, 114, 101]⟩, .string ⟨#[]⟩, .bool false] 52)) := (Below.refl _ w4).alloc (Nat.le_refl _) _
        have hq5 : Chs (w4.alloc (.cells #[.string ⟨#[109, 111, 114, 101]⟩, .string ⟨#[]⟩, .bool false] 52)) (w4.alloc (.cells #[.string ⟨#[109, 111, 114, 101]⟩, .string ⟨#[]⟩, .bool false] 52)).heap.size (some ⟨w4.heap.size, 0, none⟩) [moreC] := chs_built w4 [moreC]
        have hcm := Sto.commit (HS4.out.below hb5) He.out HE.out (by omega) (by omega) hq5 (fun e => by cases e) (by decide) (c := 1)
        rw [show ([moreC] : List Chg).length = 1 from rfl] at hcm
        clear hms h4 hb5 hq5 d1 d2 d3 d4 d5 HDa HS4
        go_wp2_with fail
        refine hcm.mono ?_
        intro e w6 h6
        obtain ⟨m6, v6, _, h6, _, hS6⟩ := h6
        clear hcm
        by_cases hsm : i < 256
        · have hsmI : (i : Int) < 256 := by omega
          obtain ⟨e1, e2⟩ := HMs.out.1 hsm
          obtain rfl : e = .returned .nilIface := by rw [e1] at h6; exact h6
          have HSx := Lib.hid hS6
          have hls := last_says hS6.ok (by rw [e2]; exact HV1.out.aft (fun c hc => by obtain rfl := List.mem_singleton.1 hc; simp [moreC])) (by
            rw [e2]
            obtain ⟨x, hx, hxk⟩ := HKy.out
            rw [← HR1.out] at hx
            obtain ⟨y, hy, hyk⟩ := key_stays (l := t1.r ++ [moreC]) (fun c hc => by
              rcases List.mem_append.1 hc with hc | hc
              · exact HG1.out c hc
              · obtain rfl := List.mem_singleton.1 hc
                rfl) (c := x) (List.mem_append_left _ hx)
            exact ⟨y, hy, hyk.trans hxk⟩)
          have HLs := Lib.hid hls
          generalize (comm t1 [moreC]).2 = t2 at *
          clear hls h6 hS6 e1 e2 HMs HV1 HG1 HR1 HKy
          have h8B : Below w6.heap.size w6 (w6.alloc (.cells #[.string ⟨#[107, 101, 121, 48]⟩, .string ⟨#[]⟩, .bool true, .string ⟨#[109, 111, 114, 101]⟩, .string ⟨#[119]⟩, .bool false] 52)) := (Below.refl _ w6).alloc (Nat.le_refl _) _
          have h8q : Chs (w6.alloc (.cells #[.string ⟨#[107, 101, 121, 48]⟩, .string ⟨#[]⟩, .bool true, .string ⟨#[109, 111, 114, 101]⟩, .string ⟨#[119]⟩, .bool false] 52)) (w6.alloc (.cells #[.string ⟨#[107, 101, 121, 48]⟩, .string ⟨#[]⟩, .bool true, .string ⟨#[109, 111, 114, 101]⟩, .string ⟨#[119]⟩, .bool false] 52)).heap.size (some ⟨w6.heap.size, 0, none⟩) lastL := chs_built w6 lastL
          have hcm := Sto.commit (HSx.out.below h8B) He.out HE.out (by omega) (by omega) h8q (fun e => by cases e) (by decide) (c := 2)
          rw [show lastL.length = 2 from rfl] at hcm
          clear h8B h8q
          go_wp2_with fail
          refine hcm.mono ?_
          intro e w9 h9
          obtain ⟨m9, v9, _, h9, _, hS9⟩ := h9
          obtain rfl : e = .returned .nilIface := by rw [HLs.out] at h9; exact h9
          have HB9 := Lib.hid hS9.un
          clear hcm h9 hS9
          go_wp2
          go_ret
          exact ⟨rfl, HB9.out⟩
        · have hsmI : ¬ (i : Int) < 256 := by omega
          have e1 := HMs.out.2 (by omega)
          rw [e1] at h6 hS6
          obtain rfl : e = .returned (resV (ads.getD 3 default) (ads.getD 18 default) (ads.getD 17 default) (ads.getD 2 default) .many) := h6
          have hS6 : Sto w w6 8192 _ g f m6 sb v6 t1 := hS6
          have HSx := Lib.hid hS6
          have hls := last_says hS6.ok HV1.out (by rw [HR1.out]; exact HKy.out)
          have HLs := Lib.hid hls
          clear hls hS6 e1 HMs HV1 HG1 HR1 HKy
          unfold resV
          have h8B : Below w6.heap.size w6 (w6.alloc (.cells #[.string ⟨#[107, 101, 121, 48]⟩, .string ⟨#[]⟩, .bool true, .string ⟨#[109, 111, 114, 101]⟩, .string ⟨#[119]⟩, .bool false] 52)) := (Below.refl _ w6).alloc (Nat.le_refl _) _
          have h8q : Chs (w6.alloc (.cells #[.string ⟨#[107, 101, 121, 48]⟩, .string ⟨#[]⟩, .bool true, .string ⟨#[109, 111, 114, 101]⟩, .string ⟨#[119]⟩, .bool false] 52)) (w6.alloc (.cells #[.string ⟨#[107, 101, 121, 48]⟩, .string ⟨#[]⟩, .bool true, .string ⟨#[109, 111, 114, 101]⟩, .string ⟨#[119]⟩, .bool false] 52)).heap.size (some ⟨w6.heap.size, 0, none⟩) lastL := chs_built w6 lastL
          have hcm := Sto.commit (HSx.out.below h8B) He.out HE.out (by omega) (by omega) h8q (fun e => by cases e) (by decide) (c := 2)
          rw [show lastL.length = 2 from rfl] at hcm
          clear h8B h8q
          go_wp2_with fail
          refine hcm.mono ?_
          intro e w9 h9
          obtain ⟨m9, v9, _, h9, _, hS9⟩ := h9
          obtain rfl : e = .returned .nilIface := by rw [HLs.out] at h9; exact h9
          have HB9 := Lib.hid hS9.un
          clear hcm h9 hS9
          go_wp2
          go_ret
          exact ⟨rfl, HB9.out⟩
end Go.Proofs.YtmpklljiddggpaaDoor
