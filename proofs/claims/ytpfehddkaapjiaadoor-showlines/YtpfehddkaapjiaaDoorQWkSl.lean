/-
  The walk of ShowLines. Conditions: none.
-/
import Derived.Test.YtpfehddkaapjiaaDoorQSwN
import Derived.Test.YtpfehddkaapjiaaDoorQTxU
import Derived.Deep.RegionLaw
namespace Go.Proofs.YtpfehddkaapjiaaDoor
open Go.RowKit Go.Lib Go.Shelf
attribute [local go_sem] Oper.semAt_some

/-- A call of a Go function, as one step of a region that draws. -/
theorem step_call_run {P : Program} {ops : Array Oper} {o : Oper} {a : Act} {w : World} {K : Act → World → Prop} {Q : Exit → Act → World → Prop} {E : Prop} (hgd : o.guard = none) {f : FuncId} {args : Array Value}
    (he : (execOp a.eval o).run P w = .ok (.enter f args) w) (h : Calls P f args w fun e w'' => ∃ v, e = .returned v ∧ K (a.put o.dst v) w'') :
    if Region.wanted o (yielded ops a.tmps) = true then Oper.wp P o a w K Q else E := by
  have hw : Region.wanted o (yielded ops a.tmps) = true := by simp [Region.wanted, hgd]
  rw [if_pos hw]
  unfold Oper.wp
  rw [he]
  refine Calls.mono h ?_
  rintro e w'' ⟨v, rfl, hK⟩
  exact hK
theorem count_take10 {l : List UInt8} {j : Nat} (h : j < l.length) : (l.take (j + 1)).count 10 = (l.take j).count 10 + if l[j] = 10 then 1 else 0 := by
  rw [List.take_succ_eq_append_getElem h, List.count_append]
  congr 1
  by_cases h10 : l[j] = 10
  · simp [h10]
  · simp [h10]
set_option maxRecDepth 100000 in
set_option maxHeartbeats 2000000 in
theorem showLines_run (a0 a1 : Int) (w : World) (_ : (Lit.int .i64 a0).wf = true) (_ : (Lit.int .i64 a1).wf = true) (ht : Tbs w) : Calls Tryd.prog 9 #[.int .i64 a0, .int .i64 a1] w (RetYes w) := by
  have HF := Lib.hid (first8_any w ht)
  have HT := Lib.hid ht
  have HN1 := Lib.hid (fun W => number_any a0 9 W (by omega) (by omega))
  have HN2 := Lib.hid (fun W => number_any a1 9 W (by omega) (by omega))
  obtain ⟨N, hN⟩ : ∃ N : Nat, a0 % 9 = (N : Int) := ⟨(a0 % 9).toNat, by omega⟩
  obtain ⟨M, hM⟩ : ∃ M : Nat, a1 % 9 = (M : Int) := ⟨(a1 % 9).toNat, by omega⟩
  have hN9 : N < 9 := by omega
  have hM9 : M < 9 := by omega
  rw [hN] at HN1
  rw [hM] at HN2
  clear hN hM ht
  go_enter Tryd.func9, Tryd.ntmps9
  go_wp2_with fail
  refine HF.out.mono ?_
  rintro e w1 ⟨rfl, hB⟩
  have HB1 := Lib.hid hB
  clear hB HF
  go_wp2_with fail
  refine (HN1.out _).mono ?_
  rintro e w1' ⟨rfl, rfl⟩
  go_wp2_with fail
  refine (HN2.out _).mono ?_
  rintro e w1' ⟨rfl, rfl⟩
  clear HN1 HN2
  have HS0 := Lib.hid (ShM.start HB1.out)
  go_wp2_with fail
  go_loopw [7] (fun i wr => ∃ (j : Nat) (v : Value) (ls : List Dc), j ≤ N ∧ i = .int .i64 (j : Int) ∧ ls.length = j ∧ ShM w wr w1.heap.size v (.slice none 0 0) ls []) (fun i _ => N - (RowKit.intOf i).toNat)
  case atStart => exact ⟨0, _, [], Nat.zero_le _, rfl, rfl, HS0.out⟩
  case round =>
    clear HS0
    obtain ⟨j, v, ls, hj, rfl, hl, hS⟩ := hrel
    by_cases hp : j < N
    · have HS := Lib.hid hS
      have Hl := Lib.hid hl
      have HTb := Lib.hid (HT.out.below hS.bel)
      obtain ⟨A, c, hv⟩ : ∃ A c, v = .slice A j c := by
        obtain ⟨A, c, h, _⟩ := hS.o3.rw
        exact ⟨A, c, by rw [h, hl]⟩
      subst hv
      have k3 : wr.cell? ⟨w1.heap.size + 1, 3, none⟩ = some (.slice A j c) := hS.node.cell 3
      have k3a : wr.drew.cell? ⟨w1.heap.size + 1, 3, none⟩ = some (.slice A j c) := k3
      have k3b : wr.drew.drew.cell? ⟨w1.heap.size + 1, 3, none⟩ = some (.slice A j c) := k3
      have k3c : wr.drew.drew.drew.cell? ⟨w1.heap.size + 1, 3, none⟩ = some (.slice A j c) := k3
      have hsz := dig_length (n := j) (by omega)
      obtain ⟨T, hT⟩ : ∃ T : ByteArray, T = ⟨(dig j).toArray⟩ := ⟨_, rfl⟩
      have hTz : T.size ≤ 21 := by rw [hT]; exact hsz
      have HNm : Hid (∀ W, Tab W → Calls Tryd.prog 12 #[.int .i64 (j : Int)] W fun e w' => e = .returned (.string T) ∧ Below W.heap.size W w') := Lib.hid (by
        intro W h
        rw [hT]
        exact num_any' j W (by omega) h)
      obtain ⟨sn, hsn⟩ : ∃ sn : List UInt8, (⟨sn.toArray⟩ : ByteArray) = { data := #[121] } ++ T := ⟨121 :: dig j, by rw [hT]; apply ByteArray.ext; simp [ByteArray.data_append]⟩
      have hsl : sn = 121 :: dig j := by
        have h := congrArg (fun b : ByteArray => b.data.toList) hsn
        rw [hT] at h
        simpa [ByteArray.data_append] using h
      have Hok : Hid (LcOk ⟨0, sn, 2, none, 0, []⟩) := Lib.hid ⟨sn, rfl, by rw [hsl, List.count_cons, show dig j = Lib.decDigits j from rfl, dec_no10 j j (Nat.le_refl _)]; decide, by rw [hsl, List.length_cons]; omega⟩
      have Hsn := Lib.hid hsn
      have hz6 : ¬ 9223372036854775807 < 1 + T.size := by omega
      clear hS hl hsz hT hsn hsl
      go_wp2_with fail
      go_region_law
        (first | (refine step_call_run (f := 12) (args := #[.int .i64 (j : Int)]) rfl (by go_simp) ?_; refine (HNm.out wr.drew HTb.out.tab).mono ?_; rintro e w2 ⟨rfl, hB2⟩; refine ⟨_, rfl, ?_⟩; have hM2 := HS.out.below (((Below.refl wr.heap.size wr).drew).trans hB2); obtain ⟨v', W', hrun, hO', hB', -, -, -⟩ := append_ow_one2 LDat ⟨0, sn, 2, none, 0, []⟩ hM2.o3 (by have := Hl.out; omega) (by have := hM2.node.lt; omega); have m3 : w2.cell? ⟨w1.heap.size + 1, 3, none⟩ = some (.slice A j c) := hM2.node.cell 3; have m3a : w2.drew.cell? ⟨w1.heap.size + 1, 3, none⟩ = some (.slice A j c) := m3; have m3b : w2.drew.drew.cell? ⟨w1.heap.size + 1, 3, none⟩ = some (.slice A j c) := m3; have m3c : (w2.alloc (.cells #[.int .i64 0, .string ({ data := #[121] } ++ T), .int .i64 2, .slice none 0 0] 26)).cell? ⟨w1.heap.size + 1, 3, none⟩ = some (.slice A j c) := (hM2.alloc _).node.cell 3; have m3d : (w2.alloc (.cells #[.int .i64 0, .string ({ data := #[121] } ++ T), .int .i64 2, .slice none 0 0] 26)).drew.cell? ⟨w1.heap.size + 1, 3, none⟩ = some (.slice A j c) := m3c; have hn' := hM2.node.below hB' (by omega); have p3 : W'.cell? ⟨w1.heap.size + 1, 3, none⟩ = some (.slice A j c) := hn'.cell 3; have f3 : W'.frozen? ⟨w1.heap.size + 1, 3, none⟩ = false := hn'.free 3; have p4 : W'.drew.cell? ⟨w1.heap.size + 1, 3, none⟩ = some (.slice A j c) := hn'.cell 3; have f4 : W'.drew.frozen? ⟨w1.heap.size + 1, 3, none⟩ = false := hn'.free 3; obtain ⟨A', c', hv'⟩ : ∃ A' c', v' = .slice A' (j + 1) c' := (by obtain ⟨A', c', h, _⟩ := hO'.rw; exact ⟨A', c', by rw [h]; simp [Hl.out]⟩); subst hv'; rw [show (LD.enc ⟨0, sn, 2, none, 0, []⟩).toArray = #[.int .i64 0, .string ({ data := #[121] } ++ T), .int .i64 2, .slice none 0 0] by rw [← Hsn.out]; rfl] at hrun) | (refine step_append_run rfl _ _ 27 27 rfl _ _ rfl rfl _ _ (hrun _) ?_))
      all_goals
        have HM3 := Lib.hid (hM2.more3 ⟨0, sn, 2, none, 0, []⟩ Hok.out hO' hB')
        clear hM2 hrun hO' hB' hn' m3 m3a m3b m3c m3d p3 p4 f3 f4 hB2
        go_wp2
        go_roundw
        case rel => exact ⟨j + 1, _, ls ++ [⟨0, sn, 2, none, 0, []⟩], by omega, by go_num, by simp [Hl.out], HM3.out⟩
        case measure => simp [RowKit.intOf]; omega
    · obtain rfl : j = N := by omega
      obtain ⟨A3, c3, hv⟩ : ∃ A c, v = .slice A j c := by
        obtain ⟨A, c, h, _⟩ := hS.o3.rw
        exact ⟨A, c, by rw [h, hl]⟩
      subst hv
      have HS := Lib.hid hS
      have Hl := Lib.hid hl
      clear hS hl
      go_wp2_with fail
      go_loopw [8] (fun i wr2 => ∃ (q : Nat) (v : Value) (qs : List Qp), q ≤ M + 1 ∧ i = .int .i64 (q : Int) ∧ qs.length = q ∧ ShM w wr2 w1.heap.size (.slice A3 j c3) v ls qs) (fun i _ => M + 1 - (RowKit.intOf i).toNat)
      case atStart => exact ⟨0, _, [], Nat.zero_le _, rfl, rfl, HS.out⟩
      case round =>
        clear HS
        obtain ⟨q, v, qs, hq, rfl, hql, hS⟩ := hrel
        obtain ⟨A4, c4, hv⟩ : ∃ A c, v = .slice A q c := by
          obtain ⟨A, c, h, _⟩ := hS.o4.rw
          exact ⟨A, c, by rw [h, hql]⟩
        subst hv
        by_cases hp2 : q < M + 1
        · have hMl := hS.alloc (.cells #[.string { data := #[120] }] 9)
          have hbl : Blk (wr.alloc (.cells #[.string { data := #[120] }] 9)) wr.heap.size 9 #[.string { data := #[120] }] := heap_alloc_new wr _
          have hzl : (wr.alloc (.cells #[.string { data := #[120] }] 9)).heap.size = wr.heap.size + 1 := World.size_alloc _ _
          obtain ⟨v', W', hrun, hO', hB', hs', hK', hob'⟩ := append_big LQat ⟨0, wr.heap.size, 0, [120], .mk 1 0 (q : Int) [] none 0 []⟩ hMl.o4 (by omega) (by have := hMl.node.lt; omega)
          have hown4 := fun g hg => (hS.o4.block g hg).2
          have hown3 := fun g hg => (hS.o3.block g hg).2
          have hM4 := hMl.more4 ⟨0, wr.heap.size, 0, [120], .mk 1 0 (q : Int) [] none 0 []⟩ ⟨wr.heap.size, q, rfl, by omega⟩ hO' hB' hs' hK' hob' ⟨by show wr.heap.size < _; omega, fun e => Nat.lt_irrefl _ (hown4 _ e), fun e => Nat.lt_irrefl _ (hown3 _ e), by have := hS.node.lt; exact this, hbl.cell 0⟩
          have hn' := hMl.node.below hB' (by omega)
          have p4 : W'.cell? ⟨w1.heap.size + 1, 4, none⟩ = some (.slice A4 q c4) := hn'.cell 4
          have f4 : W'.frozen? ⟨w1.heap.size + 1, 4, none⟩ = false := hn'.free 4
          have k4 : wr.cell? ⟨w1.heap.size + 1, 4, none⟩ = some (.slice A4 q c4) := hS.node.cell 4
          obtain ⟨A', c', hv'⟩ : ∃ A' c', v' = .slice A' (q + 1) c' := by
            obtain ⟨A', c', h, _⟩ := hO'.rw
            exact ⟨A', c', by rw [h]; simp [hql]⟩
          subst hv'
          rw [hzl] at hrun
          have HRun : Hid (∀ ty, (Builtin.append_ #[28, 28] ty #[.slice A4 q c4, .slice (some ⟨wr.heap.size + 1, 0, none⟩) 1 1]).run Tryd.prog ((wr.alloc (.cells #[.string { data := #[120] }] 9)).alloc (.cells #[.int .i64 0, .slice (some ⟨wr.heap.size, 0, none⟩) 1 1, .int .i64 1, .int .i64 0, .int .i64 (q : Int), .string { data := #[] }, .slice none 0 0, .string { data := #[] }, .slice none 0 0, .string { data := #[] }] 37)) = .ok (.slice A' (q + 1) c') W') := Lib.hid hrun
          have HM4 := Lib.hid hM4
          have Hql := Lib.hid hql
          clear hMl hbl hzl hrun hO' hB' hs' hK' hob' hown4 hown3 hM4 hn' hS hql
          go_wp2_with (at_builtin; refine wpList_append_eq rfl _ _ 28 rfl _ _ (.slice A' (q + 1) c') W' rfl rfl (HRun.out _) ?_)
          go_roundw
          case rel => exact ⟨q + 1, _, qs ++ [⟨0, wr.heap.size, 0, [120], .mk 1 0 (q : Int) [] none 0 []⟩], by omega, by go_num, by simp [Hql.out], HM4.out⟩
          case measure => simp [RowKit.intOf]; omega
        · obtain rfl : q = M + 1 := by omega
          obtain ⟨A3', c3', A4', c4', e3, e4, hLs⟩ := hS.lies
          simp only [Value.slice.injEq] at e3 e4
          obtain ⟨rfl, -, rfl⟩ := e3
          obtain ⟨rfl, -, rfl⟩ := e4
          obtain ⟨n1, n2, r, n3⟩ := ndS_cnt w1.heap.size A3 c3 ls A4 c4 qs hS.lok hS.qok
          have hlj := Hl.out
          have hC : Calls Tryd.prog 24 #[.agg #[.string { data := #[102] }, .slice none 0 0, .slice (some ⟨w1.heap.size, 0, none⟩) 1 1, .slice A3 j c3, .slice A4 (M + 1) c4]] wr fun r w' => r = .returned (.string ⟨(ndS w1.heap.size A3 c3 ls A4 c4 qs).shw.toArray⟩) ∧ Below wr.heap.size wr w' := by
            have h := snode_any (ndS w1.heap.size A3 c3 ls A4 c4 qs) wr hLs (HT.out.below hS.bel) (by omega) (by rw [n3]; simp)
            rw [show (ndS w1.heap.size A3 c3 ls A4 c4 qs).locs.length = j from hlj, show (ndS w1.heap.size A3 c3 ls A4 c4 qs).eqs.length = M + 1 from hql] at h
            exact h
          have k0 : wr.cell? ⟨w1.heap.size + 1, 0, none⟩ = _ := hS.node.cell 0
          have k1 : wr.cell? ⟨w1.heap.size + 1, 1, none⟩ = _ := hS.node.cell 1
          have k2 : wr.cell? ⟨w1.heap.size + 1, 2, none⟩ = _ := hS.node.cell 2
          have k3 : wr.cell? ⟨w1.heap.size + 1, 3, none⟩ = _ := hS.node.cell 3
          have k4 : wr.cell? ⟨w1.heap.size + 1, 4, none⟩ = _ := hS.node.cell 4
          have HB := Lib.hid hS.bel
          obtain ⟨s, hs⟩ : ∃ s : ByteArray, s = ⟨(ndS w1.heap.size A3 c3 ls A4 c4 qs).shw.toArray⟩ := ⟨_, rfl⟩
          have hsz : s.size ≤ 1000 := by rw [hs]; show (ndS w1.heap.size A3 c3 ls A4 c4 qs).shw.length ≤ 1000; omega
          have hsz2 : 25 ≤ s.size := by rw [hs]; show 25 ≤ (ndS w1.heap.size A3 c3 ls A4 c4 qs).shw.length; rw [n3, List.length_append]; simp
          have hpre : s.extract 0 25 = { data := #[110, 111, 100, 101, 32, 102, 40, 41, 32, 114, 101, 116, 117, 114, 110, 115, 32, 40, 120, 58, 32, 105, 110, 116, 41] } := by
            rw [hs, n3]
            apply ByteArray.ext
            apply Array.ext'
            rw [ByteArray.data_extract, Array.toList_extract]
            rfl
          obtain ⟨D, hD⟩ : ∃ D, D = 3 + (M + 1) + (if ls = [] then 0 else 1) := ⟨_, rfl⟩
          have hct : s.data.toList.count 10 = D := by rw [hs, hD, ← hql]; exact n1
          have HC := Lib.hid hC
          rw [← hs] at HC
          have HCt := Lib.hid hct
          have HD : Hid ((D : Int) = 3 + ((M : Int) + 1) + (if j = 0 then 0 else 1)) := Lib.hid (by
            rw [hD]
            by_cases h0 : ls = []
            · rw [if_pos h0, if_pos (by rw [← hlj, h0]; rfl)]; omega
            · rw [if_neg h0, if_neg (fun h => h0 (List.eq_nil_of_length_eq_zero (by omega)))]; omega)
          have Hpre := Lib.hid hpre
          clear hct hD hs n1 n2 n3 hC hLs hS hlj hql hpre
          go_wp2_with fail
          refine HC.out.mono ?_
          rintro r2 w2 ⟨rfl, h2⟩
          have HB2 := Lib.hid (HB.out.trans (h2.mono HB.out.size))
          clear h2 HC HB k0 k1 k2 k3 k4
          go_wp2_with fail
          go_loop [10, 11] (fun x j => ∃ q : Nat, q ≤ s.size ∧ x = .int .i64 (((s.data.toList.take q).count 10 : Nat) : Int) ∧ j = .int .i64 (q : Int)) (fun _ j => s.size - (RowKit.intOf j).toNat)
          case atStart => exact ⟨0, by omega, rfl, rfl⟩
          case round =>
            obtain ⟨q, hq, rfl, rfl⟩ := hrel
            by_cases hqp : q < s.size
            · have hc0 := count_take10 (l := s.data.toList) (j := q) (by simpa using hqp)
              obtain ⟨c, hc⟩ : ∃ c, s[q] = c := ⟨_, rfl⟩
              have hcs : s.data.toList[q]'(by simpa using hqp) = c := hc
              rw [hcs] at hc0
              have hcle : (s.data.toList.take q).count 10 ≤ 1000 := by
                have := List.count_le_length (a := (10 : UInt8)) (l := s.data.toList.take q)
                simp at this
                omega
              obtain ⟨m, hm⟩ : ∃ m, m = (s.data.toList.take q).count 10 := ⟨_, rfl⟩
              rw [← hm] at hc0 hcle ⊢
              have HC0 := Lib.hid hc0
              clear hcs hc0 hm
              by_cases h10 : c = 10
              · subst h10
                go_wp2
                go_round
                case rel => exact ⟨q + 1, by omega, by rw [HC0.out]; go_num, by go_num⟩
                case measure => simp [RowKit.intOf]; omega
              · have h10' : ((c.toNat : Int) == 10) = false := beq_eq_false_iff_ne.2 (fun h => h10 (UInt8.toNat_inj.1 (by show c.toNat = 10; omega)))
                have HNe := Lib.hid h10
                clear h10
                go_wp2
                go_round
                case rel => exact ⟨q + 1, by omega, by rw [HC0.out, if_neg HNe.out, Nat.add_zero], by go_num⟩
                case measure => simp [RowKit.intOf]; omega
            · obtain rfl : q = s.size := by omega
              have e : (s.data.toList.take s.size).count 10 = D := by rw [List.take_of_length_le (by simp)]; exact HCt.out
              rw [e, HD.out]
              clear e hqp hq
              have hpre := Hpre.out
              by_cases hj0 : j = 0
              · rw [if_pos hj0]
                subst hj0
                go_wp2
                go_ret
                exact ⟨rfl, HB2.out⟩
              · rw [if_neg hj0]
                have hj1 : (0 : Int) < (j : Int) := by omega
                clear hj0
                go_wp2
                go_ret
                exact ⟨rfl, HB2.out⟩
theorem showLines_walk (a0 a1 : Int) (w : World) (h0 : (Lit.int .i64 a0).wf = true) (h1 : (Lit.int .i64 a1).wf = true) (hL : laidMetH Tryd.prog laid4w w) : Calls Tryd.prog 9 #[.int .i64 a0, .int .i64 a1] w (RetYes w) := showLines_run a0 a1 w h0 h1 ⟨(bef_of4 hL).1, (bef_of4 hL).2⟩
end Go.Proofs.YtpfehddkaapjiaaDoor
