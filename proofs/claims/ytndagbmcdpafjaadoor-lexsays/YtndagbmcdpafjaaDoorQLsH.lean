/-
  The walk of the document's All over a text that may be. Conditions: its own premises.
-/
import Derived.Test.YtndagbmcdpafjaaDoorQLsG
import Derived.Test.YtndagbmcdpafjaaDoorQTxU
namespace Go.Proofs.YtndagbmcdpafjaaDoor
open Go.Shelf Go.RowKit Go.Lib

theorem rd_at {R : List Nat} {p q : Nat} (h : q = sk R p) : rd R p = rdAt R q := by rw [h]; rfl
theorem at0_ne {R : List Nat} (hok : okRs R) {q : Nat} (h : q < R.length) : at0 R q ≠ 0 := by
  rw [at0_lt h]
  exact (hok _ (List.getElem_mem h)).2.1
theorem sk_both (R : List Nat) {p : Nat} (h : p ≤ R.length) : p ≤ sk R p ∧ sk R p ≤ R.length := by
  obtain ⟨k, hk, hl⟩ := skp_suffix _ (R.drop p) (Nat.le_refl _)
  unfold sk
  rw [hk]
  simp
  omega
/-- How far All has come. -/
def UlRel (w3 : World) (R : List Nat) (l : List Tk) (f : Option (Nat × Nat)) (v i : Value) (wr : World) : Prop :=
  ∃ (pre : List Tk) (A : Option Addr) (c p : Nat), p ≤ R.length ∧ v = .slice A pre.length c ∧ Ow LU wr w3.heap.size v pre ∧ i = .int .i64 (p : Int) ∧ l = pre ++ (lx R p).1 ∧ f = (lx R p).2 ∧ pre.length ≤ p ∧ Below w3.heap.size w3 wr

theorem ul_ret {w w3 w4 : World} {v : Value} {pre : List Tk} {x y : Int} {z : Bool} (hO : Ow LU w4 w3.heap.size v pre) (hB : Below w.heap.size w w4) (hr : Blk5 w4 w.heap.size x y z) (hlt : w.heap.size < w3.heap.size) (c p : Int) (a : Bool) :
    Ow LU (set5 w4 w.heap.size c p a) w.heap.size v pre ∧ Below w.heap.size w (set5 w4 w.heap.size c p a) ∧ Blk5 (set5 w4 w.heap.size c p a) w.heap.size c p a := by
  refine ⟨(hO.keep fun g hg => ?_).mono (Nat.le_of_lt hlt), set5_below hB (Nat.le_refl _) c p a, set5_blk hr c p a⟩
  have hne : g ≠ w.heap.size := by have := (hO.block g hg).1; omega
  unfold set5
  rw [Below.heap_setCell _ _ _ g hne, Below.heap_setCell _ _ _ g hne, Below.heap_setCell _ _ _ g hne, Below.heap_setCell _ _ _ g hne, Below.heap_setCell _ _ _ g hne]

set_option maxRecDepth 100000 in
set_option maxHeartbeats 20000000 in
theorem rall_good (s : ByteArray) (l : List Tk) (f : Option (Nat × Nat)) (w : World) (hs : s.size ≤ 4096) (hn : noBad s) (hl : (l, f) = lx (rns s.data.toList) 0) (hne0 : pies 0 (pcs s.data.toList) ≠ []) : Calls Tryd.prog 9 #[.string s] w (RetUl w l f) := by
  obtain ⟨W0, hW0⟩ : ∃ W0, W0 = w.alloc (.cells #[.int .i64 0, .bool false, .bool false, .int .i64 0, .int .i64 0] 30) := ⟨_, rfl⟩
  have hB0 : Below w.heap.size w W0 := by rw [hW0]; exact (Below.refl _ _).alloc (Nat.le_refl _) _
  have hr0 : Blk5 W0 w.heap.size 0 0 false := by rw [hW0]; exact heap_alloc_new w _
  have HV := Lib.hid (rvalid_any s W0 hs)
  have HB0 := Lib.hid hB0
  have HR0 := Lib.hid hr0
  obtain ⟨hok, -⟩ := noBad.rns hn
  have HN := Lib.hid hn
  obtain ⟨R, hR⟩ : ∃ R, R = rns s.data.toList := ⟨_, rfl⟩
  have hRl : (pies 0 (pcs s.data.toList)).length = R.length := by rw [pies_length, hR]; simp [rns]
  have hR4 : R.length ≤ 4096 := by have := pcs_len s.data.toList; rw [pies_length] at hRl; simp at this; omega
  rw [← hR] at hl hok
  have HOk := Lib.hid hok
  have HL := Lib.hid hl
  have HR := Lib.hid hR
  have HP := Lib.hid (fun W => pieces_any s W (by omega))
  have HNe := Lib.hid hne0
  have HRl := Lib.hid hRl
  have HIs := Lib.hid (fun (x : ByteArray) W => is_any x W)
  clear hB0 hr0 hok hn hl hR hne0 hRl
  go_enter Tryd.func9, Tryd.ntmps9
  go_wp2_with fail
  rw [← hW0]
  clear hW0
  refine HV.out.mono ?_
  rintro e w1 ⟨hB1, ⟨-, rfl⟩ | ⟨q, hq, rfl⟩⟩
  case inr => exact absurd HN.out (badAt_not hq)
  have HR1 := Lib.hid (HR0.out.below hB1 HR0.out.lt)
  have HB1 := Lib.hid (HB0.out.trans (hB1.mono HB0.out.size))
  clear hB1 HV HR0 HB0
  go_wp2_with fail
  obtain ⟨w2, hw2⟩ : ∃ w2, w2 = w1.alloc (.cells #[.int .i64 0, .bool false, .bool false, .int .i64 0, .int .i64 0] 30) := ⟨_, rfl⟩
  have hr2 : Blk5 w2 w1.heap.size 0 0 false := by rw [hw2]; exact heap_alloc_new w1 _
  have hr2' : Blk5 w2 w.heap.size 0 0 false := by rw [hw2]; exact HR1.out.alloc _
  have hB2 : Below w.heap.size w w2 := by rw [hw2]; exact HB1.out.alloc HB1.out.size _
  have hz2 : w2.heap.size = w1.heap.size + 1 := by rw [hw2]; simp
  rw [← hw2]
  clear hw2
  refine (HP.out w2).mono ?_
  rintro e w3 ⟨v, rfl, hO, hB3⟩
  obtain ⟨g, c, rfl, hg1, hg2, hlc, hcell⟩ := hO.at_ HNe.out
  have hPR : PR w3 g R := fun k hk => by
    have hk2 : k < (pies 0 (pcs s.data.toList)).length := by rw [HRl.out]; exact hk
    have h0 := hcell k hk2 0 (.int .i32 ((pies 0 (pcs s.data.toList))[k].2.1 : Int)) rfl
    have hx := pies_get 0 _ k _ (List.getElem?_eq_getElem hk2)
    have : at0 R k = (pies 0 (pcs s.data.toList))[k].2.1 := by
      rw [at0_lt hk]
      have h2 : R[k]? = some (pies 0 (pcs s.data.toList))[k].2.1 := by rw [HR.out]; unfold rns; rw [List.getElem?_map, hx]; rfl
      rw [List.getElem?_eq_getElem hk] at h2
      exact Option.some.inj h2
    rw [this]
    exact h0
  obtain ⟨len, hlen⟩ : ∃ len, len = (pies 0 (pcs s.data.toList)).length := ⟨_, rfl⟩
  rw [← hlen] at hlc ⊢
  have HLen := Lib.hid (hlen.trans HRl.out)
  have hlen4 : len ≤ 4096 := by rw [hlen, HRl.out]; exact hR4
  have HPR := Lib.hid hPR
  have HR3 := Lib.hid (hr2.below hB3 hr2.lt)
  have HR3' := Lib.hid (hr2'.below hB3 hr2'.lt)
  have HB3 := Lib.hid (hB2.trans (hB3.mono hB2.size))
  have hz3 : w1.heap.size < w3.heap.size := HR3.out.lt
  have hz1 : w.heap.size < w1.heap.size := HR1.out.lt
  clear hcell hO hPR hlen hr2 hr2' hB2 hB3 HP HNe HRl HR1 HB1 hR4
  go_wp2
  go_loopw [6, 7] (fun v i wr => UlRel w3 R l f v i wr) (fun _ i _ => len - (RowKit.intOf i).toNat)
  case atStart => exact ⟨[], none, 0, 0, Nat.zero_le _, rfl, Ow.nil _ _ _, rfl, congrArg Prod.fst HL.out, congrArg Prod.snd HL.out, Nat.le_refl _, Below.refl _ _⟩
  case round =>
    obtain ⟨pre, A, c2, p, hp, rfl, hO, rfl, hl1, hf1, hpl, hB⟩ := hrel
    have hpz : p ≤ 4096 := by have := HLen.out; omega
    have hsk := sk_both R hp
    have HSk := Lib.hid (rskip_any g c R len p wr HLen.out hlc (by have := HLen.out; omega) (by omega) (fun k hk => (hB.cell (p := ⟨g, k * 4, none⟩) hg2).trans (HPR.out k hk)))
    have HQ := Lib.hid (fun q h => rd_at (R := R) (p := p) (q := q) h)
    obtain ⟨q, hq⟩ : ∃ q, q = sk R p := ⟨_, rfl⟩
    have HRd := Lib.hid (HQ.out q hq)
    rw [← hq] at hsk HSk
    have HO := Lib.hid hO
    have HB := Lib.hid hB
    have HL1 := Lib.hid hl1
    have HF1 := Lib.hid hf1
    clear hq HQ hO hB hl1 hf1
    go_wp2_with fail
    refine HSk.out.mono ?_
    rintro e w' ⟨rfl, rfl⟩
    by_cases hend : len ≤ q
    · go_wp2
      have HE0 : Hid (l = pre ++ [(⟨0, R.length, [], 0⟩ : Tk)] ∧ f = none) := Lib.hid (by
        have h0 : rd R p = .tok ⟨0, R.length, [], 0⟩ q := by
          rw [HRd.out]
          unfold rdAt
          have : q = R.length := by have := HLen.out; omega
          rw [if_pos (by rw [at0_ge (by omega)]), this]
        have := lx_end h0 rfl
        refine ⟨by rw [HL1.out, this], by rw [HF1.out, this]⟩)
      obtain ⟨v6, w6, hrun, hO6, hB6, -, -⟩ := append_ow_one LUat ⟨0, R.length, [], 0⟩ (Ow.below (w' := wr.drew) HO.out ((Below.refl wr.heap.size wr).drew) (Nat.le_refl _)) (by omega) HB.out.size
      obtain ⟨A6, c6, rfl⟩ := hO6.slice
      have hLR := HLen.out
      have hrun2 : ∀ ty, (Builtin.append_ #[28, 28] ty #[.slice A pre.length c2, .slice (some ⟨wr.heap.size, 0, none⟩) 1 1]).run Tryd.prog (wr.drew.alloc (.cells #[.int .i64 0, .int .i64 (len : Int), .string { data := #[] }, .int .i64 0] 38)) = .ok (.slice A6 (pre ++ [(⟨0, R.length, [], 0⟩ : Tk)]).length c6) w6 := fun ty => by
        have hen : (LU.enc ⟨0, R.length, [], 0⟩).toArray = #[.int .i64 0, .int .i64 (len : Int), .string { data := #[] }, .int .i64 0] := by rw [hLR]; rfl
        have := hrun ty
        rw [hen] at this
        exact this
      have hB36 : Below w3.heap.size w3 w6 := HB.out.trans (((((Below.refl wr.heap.size wr).drew).mono HB.out.size)).trans hB6)
      obtain ⟨⟨b0, b1, b2, b3, b4⟩, -⟩ := blk5 (HR3.out.below HB.out hz3)
      obtain ⟨⟨d0, d1, d2, d3, d4⟩, e0, e1, e2, e3, e4⟩ := blk5 (HR3'.out.below HB.out (by omega))
      have hb6 : Blk5 w6 w1.heap.size 0 0 false := HR3.out.below hB36 hz3
      have hr6 : Blk5 w6 w.heap.size 0 0 false := HR3'.out.below hB36 (by omega)
      obtain ⟨⟨k0, k1, k2, k3, k4⟩, -⟩ := blk5 hb6
      obtain ⟨⟨m0, m1, m2, m3, m4⟩, n0, n1, n2, n3, n4⟩ := blk5 hr6
      obtain ⟨r1, r2, r3⟩ := ul_ret hO6 (HB3.out.trans (hB36.mono HB3.out.size)) hr6 (by omega) 0 0 false
      have HFin := Lib.hid (⟨r1, r2⟩ : _ ∧ _)
      obtain ⟨WF, hWF⟩ : ∃ WF, WF = set5 w6 w.heap.size 0 0 false := ⟨_, rfl⟩
      rw [← hWF] at HFin r3
      have HR3F := Lib.hid r3
      unfold set5 at hWF
      have HRun := Lib.hid hrun2
      have n1 : ¬ w1.heap.size = w.heap.size := by omega
      have n2 : ¬ w.heap.size = w1.heap.size := by omega
      clear hrun hrun2 hO6 hB6 hB36 hb6 hr6 r1 r2 r3 hLR
      obtain ⟨nn, hnn⟩ : ∃ nn, nn = (pre ++ [(⟨0, R.length, [], 0⟩ : Tk)]).length := ⟨_, rfl⟩
      rw [← hnn] at HRun HFin
      have HNn := Lib.hid hnn
      clear hnn
      go_region_held3 (fun W => W.cell? ⟨w1.heap.size, 0, none⟩ = some (.int .i64 0) ∧ W.cell? ⟨w1.heap.size, 1, none⟩ = some (.bool false) ∧ W.cell? ⟨w1.heap.size, 2, none⟩ = some (.bool false) ∧ W.cell? ⟨w1.heap.size, 3, none⟩ = some (.int .i64 0) ∧ W.cell? ⟨w1.heap.size, 4, none⟩ = some (.int .i64 0)) (go_keep)
        (refine step_append_run rfl _ _ 28 28 rfl _ _ rfl rfl _ _ (HRun.out _) ?_)
      all_goals
        rw [← hWF]
        obtain ⟨⟨d0, d1, d2, d3, d4⟩, _⟩ := blk5 HR3F.out
        go_wp2
        refine bodyPost_ret (v := .tuple #[.slice A6 nn c6, fault 0 false false 0 0]) (by simp [results, Tryd.results9, go_sem, d0, d1, d2, d3, d4]) rfl ⟨.slice A6 nn c6, ?_, ?_, HFin.out.2⟩
        · rw [HE0.out.2]; rfl
        · rw [HE0.out.1]; exact HFin.out.1
    · have hql : q < R.length := by have := HLen.out; omega
      have hPW : PR wr g R := fun k hk => (HB.out.cell (p := ⟨g, k * 4, none⟩) hg2).trans (HPR.out k hk)
      have hc0 := hPW q hql
      have HLt := Lib.hid (fun W => rletter_any (at0 R q : Int) W)
      have HDg := Lib.hid (fun W => rdigit_any (at0 R q : Int) W)
      have ha0 := at0_ne HOk.out hql
      have HAt : Hid (rd R p = if letB (at0 R q : Int) then nameAt R q else if isDig (at0 R q) then numAt R q else signAt R q) := Lib.hid (by rw [HRd.out]; unfold rdAt; rw [if_neg ha0])
      obtain ⟨wb, hwb⟩ : ∃ wb, wb = wr.alloc (.cells #[.int .i64 0, .int .i64 (q : Int), .string { data := #[] }, .int .i64 0] 38) := ⟨_, rfl⟩
      have hBx : Blk wb wr.heap.size 38 #[.int .i64 0, .int .i64 (q : Int), .string { data := #[] }, .int .i64 0] := by rw [hwb]; exact heap_alloc_new wr _
      have hBb : Below wr.heap.size wr wb := by rw [hwb]; exact (Below.refl _ _).alloc (Nat.le_refl _) _
      have hPb : PR wb g R := fun k hk => (hBb.cell (p := ⟨g, k * 4, none⟩) (by have := HB.out.size; show g < _; omega)).trans (hPW k hk)
      have HBx := Lib.hid hBx
      have HBb := Lib.hid hBb
      have HPb := Lib.hid hPb
      have HOb := Lib.hid (HO.out.below hBb (Nat.le_refl _))
      have HBw := Lib.hid (HB.out.trans (hBb.mono HB.out.size))
      obtain ⟨a, ha⟩ : ∃ a, a = at0 R q := ⟨_, rfl⟩
      rw [← ha] at hc0 HLt HDg HAt
      have HA := Lib.hid ha
      clear ha ha0 hPW hBx hBb hPb HSk HRd
      cases hlt : letB (a : Int)
      · rw [hlt] at HLt HAt
        cases hdg : digB (a : Int)
        · rw [hdg] at HDg
          have HAt2 : Hid (rd R p = signAt R q) := Lib.hid (by rw [HAt.out, if_neg (by decide), if_neg (by unfold isDig; rw [hdg]; decide)])
          have HSg := Lib.hid (rsign_any g c R len q wb HLen.out hlc (by omega) (by omega) HPb.out)
          obtain ⟨k, hk⟩ : ∃ k, k = sgn (at0 R q) (at0 R (q + 1)) := ⟨_, rfl⟩
          have hk2 := sgn_le (at0 R q) (at0 R (q + 1))
          rw [← hk] at HSg hk2
          have HK := Lib.hid hk
          clear hk hlt hdg
          go_wp2_with fail
          rw [← hwb]
          clear hwb
          refine (HLt.out _).mono ?_
          rintro e w' ⟨rfl, rfl⟩
          go_wp2_with fail
          refine (HDg.out _).mono ?_
          rintro e w' ⟨rfl, rfl⟩
          go_wp2_with fail
          refine HSg.out.mono ?_
          rintro e w' ⟨rfl, rfl⟩
          by_cases hk0 : k = 0
          · subst hk0
            go_wp2_with fail
            refine (placed_any 105 (q : Int) _ (by decide)).mono ?_
            rintro e w4 ⟨rfl, hB4⟩
            have hB34 := HBw.out.trans (hB4.mono HBw.out.size)
            have hr4 : Blk5 w4 w.heap.size 0 0 false := HR3'.out.below hB34 (by omega)
            have hO4 := HOb.out.below hB4 (Nat.le_refl _)
            have hBw4 := HB3.out.trans (hB34.mono HB3.out.size)
            obtain ⟨⟨b0, b1, b2, b3, b4⟩, f0, f1, f2, f3, f4⟩ := blk5 hr4
            obtain ⟨r1, r2, r3⟩ := ul_ret hO4 hBw4 hr4 (by omega) 105 (q : Int) true
            have HFin := Lib.hid (⟨r1, r2⟩ : _ ∧ _)
            obtain ⟨WF, hWF⟩ : ∃ WF, WF = set5 w4 w.heap.size 105 (q : Int) true := ⟨_, rfl⟩
            rw [← hWF] at HFin r3
            have HR3F := Lib.hid r3
            unfold set5 at hWF
            have HE : Hid (l = pre ∧ f = some (4, q)) := Lib.hid (by
              have hbad : rd R p = .bad 4 q := by rw [HAt2.out]; unfold signAt; rw [if_pos HK.out.symm]
              have := lx_bad hbad
              refine ⟨by rw [HL1.out, this, List.append_nil], by rw [HF1.out, this]⟩)
            clear hB4 hB34 hr4 hO4 hBw4 r1 r2 r3
            go_wp2
            rw [← hWF]
            obtain ⟨⟨d0, d1, d2, d3, d4⟩, _⟩ := blk5 HR3F.out
            refine bodyPost_ret (v := .tuple #[.slice A pre.length c2, fault 105 true false (q : Int) 0]) (by simp [results, Tryd.results9, go_sem, d0, d1, d2, d3, d4]) rfl ⟨.slice A pre.length c2, ?_, ?_, HFin.out.2⟩
            · rw [HE.out.2]; rfl
            · rw [HE.out.1]; exact HFin.out.1
          · have hk0' : ((k : Int) == 0) = false := beq_eq_false_iff_ne.2 (by omega)
            have hqk : q + k ≤ R.length := by
              by_cases h2 : k = 2
              · have := sgn_two (R := R) (p := q) (by rw [← HK.out]; exact h2)
                omega
              · omega
            have hRs : (rns s.data.toList).length = R.length := by rw [HR.out]
            have HCu := Lib.hid (fun W => rcut_any s q (q + k) W hs HN.out (by omega) (by omega))
            rw [← HR.out] at HCu
            obtain ⟨X, hX⟩ : ∃ X : ByteArray, X = ⟨(cutE R q (q + k)).toArray⟩ := ⟨_, rfl⟩
            rw [← hX, Int.natCast_add] at HCu
            have HX := Lib.hid hX
            clear hX hRs
            obtain ⟨⟨t0, t1, t2, t3⟩, x0, x1, x2, x3⟩ := blk4 HBx.out
            go_wp2_with fail
            refine (HCu.out _).mono ?_
            rintro e w4 ⟨rfl, hB4⟩
            have hzb : wr.heap.size < wb.heap.size := HBx.out.lt
            have hz4 := hB4.size
            simp only [World.size_setCell] at hB4 hz4
            have hbk : Blk w4 wr.heap.size 38 #[.int .i64 4, .int .i64 (q : Int), .string { data := #[] }, .int .i64 0] := (HBx.out.set 0 (.int .i64 4)).below hB4 hzb
            have hb5 : Blk (w4.setCell ⟨wr.heap.size, 2, none⟩ (.string X)) wr.heap.size 38 #[.int .i64 4, .int .i64 (q : Int), .string X, .int .i64 0] := hbk.set 2 (.string X)
            have hOk : Ow LU (wb.setCell ⟨wr.heap.size, 0, none⟩ (.int .i64 4)) w3.heap.size (.slice A pre.length c2) pre := HOb.out.keep fun g2 hg2 => Below.heap_setCell _ _ _ g2 (by have := (HO.out.block g2 hg2).2; show g2 ≠ wr.heap.size; omega)
            have hO4 := hOk.below hB4 (by simp)
            have hO5 : Ow LU (w4.setCell ⟨wr.heap.size, 2, none⟩ (.string X)) w3.heap.size (.slice A pre.length c2) pre := hO4.keep fun g2 hg2 => Below.heap_setCell _ _ _ g2 (by have := (HO.out.block g2 hg2).2; show g2 ≠ wr.heap.size; omega)
            have hwz := HB.out.size
            have hB5 : Below w3.heap.size w3 (w4.setCell ⟨wr.heap.size, 2, none⟩ (.string X)) := (((HBw.out.setCell (p := ⟨wr.heap.size, 0, none⟩) hwz _).trans (hB4.mono (by omega))).setCell (p := ⟨wr.heap.size, 2, none⟩) hwz _)
            obtain ⟨v6, w6, hrun, hO6, hB6, -, -⟩ := append_ow_one LUat ⟨4, q, cutE R q (q + k), 0⟩ hO5 (by omega) hB5.size
            obtain ⟨A6, c6, rfl⟩ := hO6.slice
            rw [show (pre ++ [(⟨4, q, cutE R q (q + k), 0⟩ : Tk)]).length = pre.length + 1 by rw [List.length_append]; rfl] at hrun hO6
            have hrun2 : ∀ ty, (Builtin.append_ #[28, 28] ty #[.slice A pre.length c2, .slice (some ⟨w4.heap.size, 0, none⟩) 1 1]).run Tryd.prog ((w4.setCell ⟨wr.heap.size, 2, none⟩ (.string X)).alloc (.cells #[.int .i64 4, .int .i64 (q : Int), .string X, .int .i64 0] 38)) = .ok (.slice A6 (pre.length + 1) c6) w6 := fun ty => by
              have hen : (LU.enc ⟨4, q, cutE R q (q + k), 0⟩).toArray = #[.int .i64 4, .int .i64 (q : Int), .string X, .int .i64 0] := by rw [HX.out]; rfl
              have := hrun ty
              rw [World.size_setCell, hen] at this
              exact this
            obtain ⟨⟨y0, y1, y2, y3⟩, z0, z1, z2, z3⟩ := blk4 hbk
            obtain ⟨⟨s0, s1, s2, s3⟩, -⟩ := blk4 hb5
            have HRun := Lib.hid hrun2
            have HO6 := Lib.hid hO6
            have HB6 := Lib.hid (hB5.trans hB6)
            have HStp : Hid (l = (pre ++ [(⟨4, q, cutE R q (q + k), 0⟩ : Tk)]) ++ (lx R (q + k)).1 ∧ f = (lx R (q + k)).2) := Lib.hid (by
              have htok : rd R p = .tok ⟨4, q, cutE R q (q + k), 0⟩ (q + k) := by rw [HAt2.out]; unfold signAt; rw [← HK.out, if_neg hk0]
              have := lx_more HOk.out hp htok (by show (4 : Nat) ≠ 0; decide)
              refine ⟨by rw [HL1.out, this, List.append_assoc]; rfl, by rw [HF1.out, this]⟩)
            clear hB4 hbk hb5 hOk hO4 hO5 hB5 hrun hrun2 hO6 hB6 t0 t1 t2 t3 x0 x1 x2 x3
            go_wp2_with (at_builtin; refine wpList_append_eq rfl _ _ 28 rfl _ _ (.slice A6 (pre.length + 1) c6) w6 rfl rfl (HRun.out _) ?_)
            go_roundw
            case rel => exact ⟨pre ++ [⟨4, q, cutE R q (q + k), 0⟩], A6, c6, q + k, hqk, by rw [List.length_append]; rfl, HO6.out, by go_num, HStp.out.1, HStp.out.2, by rw [List.length_append, List.length_singleton]; omega, HB6.out⟩
            case measure => simp [RowKit.intOf]; omega
        · rw [hdg] at HDg
          have HAt2 : Hid (rd R p = numAt R q) := Lib.hid (by rw [HAt.out, if_neg (by decide), if_pos (by unfold isDig; exact hdg)])
          obtain ⟨b, hb⟩ : ∃ b, b = bh isDig R q := ⟨_, rfl⟩
          have hqb : q < b := by rw [hb]; exact bh_gt (p := isDig) hql (by rw [← HA.out]; exact hdg)
          have hbR : b ≤ R.length := by rw [hb]; exact bh_le isDig R q (by omega)
          have HEnd := hbR
          have HBh := Lib.hid hb
          have HBq := Lib.hid hb
          have HDs := Lib.hid (fun (r : Nat) W => rdigit_any (r : Int) W)
          have HLs := Lib.hid (fun (r : Nat) W => rletter_any (r : Int) W)
          have hRs : (rns s.data.toList).length = R.length := by rw [HR.out]
          have HCu := Lib.hid (fun W => rcut_any s q b W hs HN.out (by omega) (by omega))
          rw [← HR.out] at HCu
          obtain ⟨X, hX⟩ : ∃ X : ByteArray, X = ⟨(cutE R q b).toArray⟩ := ⟨_, rfl⟩
          rw [← hX] at HCu
          have HNm := Lib.hid (fun W => rnumber_any X (cutE R q b) W (by rw [hX]) (by have := (cut_dig R q).1; rw [← hb] at this; exact this) (by have := (cut_dig R q).2; rw [← hb] at this; intro h0; rw [h0] at this; simp at this; omega))
          have HX := Lib.hid hX
          clear hX hRs hlt hdg hb
          go_wp2_with fail
          rw [← hwb]
          clear hwb
          refine (HLt.out _).mono ?_
          rintro e w' ⟨rfl, rfl⟩
          go_wp2_with fail
          refine (HDg.out _).mono ?_
          rintro e w' ⟨rfl, rfl⟩
          go_wp2_with fail
          clear HLt HDg
          go_loop [7] (fun x => ∃ k : Nat, q ≤ k ∧ k ≤ len ∧ x = .int .i64 (k : Int) ∧ b = bh isDig R k) (fun x => len - (RowKit.intOf x).toNat)
          case atStart => exact ⟨q, Nat.le_refl _, by omega, rfl, HBq.out⟩
          case round =>
            obtain ⟨k, hqk, hk, rfl, hkb⟩ := hrel
            have HKb := Lib.hid hkb
            clear hkb
            obtain ⟨⟨t0, t1, t2, t3⟩, x0, x1, x2, x3⟩ := blk4 HBx.out
            by_cases hkl : k < len
            · have hkI : (k : Int) < (len : Int) := by omega
              have hc := HPb.out k (by have := HLen.out; omega)
              have HS := Lib.hid (bh_step (p := isDig) (R := R) (i := k) (by have := HLen.out; omega))
              have HT := Lib.hid (bh_stop (p := isDig) (R := R) (i := k) (by have := HLen.out; omega))
              have HD1 := Lib.hid (fun W => HDs.out (at0 R k) W)
              obtain ⟨x, hx⟩ : ∃ x, x = at0 R k := ⟨_, rfl⟩
              rw [← hx] at hc HS HT HD1
              clear hx
              cases hd : digB (x : Int)
              · rw [hd] at HD1
                have HY := Lib.hid (show b = k by rw [HKb.out, HT.out (by unfold isDig; exact hd)])
                clear hd HS HT
                go_wp2_with fail
                refine (HD1.out _).mono ?_
                rintro e w' ⟨rfl, rfl⟩
                obtain rfl := HY.out
                clear HY HKb HD1
                go_wp2_with fail
                refine (HCu.out _).mono ?_
                rintro e w4 ⟨rfl, hB4⟩
                have hzb : wr.heap.size < wb.heap.size := HBx.out.lt
                have hz4 := hB4.size
                simp only [World.size_setCell] at hB4 hz4
                have hwz := HB.out.size
                have hbk : Blk w4 wr.heap.size 38 #[.int .i64 3, .int .i64 (q : Int), .string { data := #[] }, .int .i64 0] := (HBx.out.set 0 (.int .i64 3)).below hB4 hzb
                have hbt : Blk (w4.setCell ⟨wr.heap.size, 2, none⟩ (.string X)) wr.heap.size 38 #[.int .i64 3, .int .i64 (q : Int), .string X, .int .i64 0] := hbk.set 2 (.string X)
                have hOk : Ow LU (wb.setCell ⟨wr.heap.size, 0, none⟩ (.int .i64 3)) w3.heap.size (.slice A pre.length c2) pre := HOb.out.keep fun g2 hg2 => Below.heap_setCell _ _ _ g2 (by have := (HO.out.block g2 hg2).2; show g2 ≠ wr.heap.size; omega)
                have hO4 := hOk.below hB4 (by simp)
                have hO5 : Ow LU (w4.setCell ⟨wr.heap.size, 2, none⟩ (.string X)) w3.heap.size (.slice A pre.length c2) pre := hO4.keep fun g2 hg2 => Below.heap_setCell _ _ _ g2 (by have := (HO.out.block g2 hg2).2; show g2 ≠ wr.heap.size; omega)
                have hB5 : Below w3.heap.size w3 (w4.setCell ⟨wr.heap.size, 2, none⟩ (.string X)) := (((HBw.out.setCell (p := ⟨wr.heap.size, 0, none⟩) hwz _).trans (hB4.mono (by omega))).setCell (p := ⟨wr.heap.size, 2, none⟩) hwz _)
                obtain ⟨⟨y0, y1, y2, y3⟩, z0, z1, z2, z3⟩ := blk4 hbk
                have HPb5 : Hid (PR (w4.setCell ⟨wr.heap.size, 2, none⟩ (.string X)) g R) := Lib.hid fun k hk => (hB5.cell (p := ⟨g, k * 4, none⟩) hg2).trans (HPR.out k hk)
                have HOF := Lib.hid hO5
                have HBF := Lib.hid hB5
                have HbF := Lib.hid hbt
                clear hB4 hbk hOk hO4 hO5 hB5 hbt t0 t1 t2 t3 x0 x1 x2 x3
                obtain ⟨W5, hW5⟩ : ∃ W5, W5 = w4.setCell ⟨wr.heap.size, 2, none⟩ (.string X) := ⟨_, rfl⟩
                have hz5 : W5.heap.size = w4.heap.size := by rw [hW5]; simp
                rw [← hW5] at HPb5 HOF HBF HbF
                have HW5 := Lib.hid hW5
                clear hW5
                cases hnb : numB (cutE R q b) with
                | none =>
                  have hv : numV (cutE R q b) = .tuple #[.int .i64 0, .bool false] := by unfold numV; rw [hnb]
                  rw [hv] at HNm
                  have HNb := Lib.hid hnb
                  clear hv hnb
                  go_wp2_with fail
                  rw [← HW5.out]
                  clear HW5
                  refine (HNm.out _).mono ?_
                  rintro e w' ⟨rfl, rfl⟩
                  go_wp2_with fail
                  refine (placed_any 107 (q : Int) _ (by decide)).mono ?_
                  rintro e w8 ⟨rfl, hB8⟩
                  have hB8' : Below (W5).heap.size (W5) w8 := by simpa only [World.size_setCell] using hB8
                  have hB38 := HBF.out.trans (hB8'.mono HBF.out.size)
                  have hr8 : Blk5 w8 w.heap.size 0 0 false := HR3'.out.below hB38 (by omega)
                  have hO8 := HOF.out.below hB8' (Nat.le_refl _)
                  have hBw8 := HB3.out.trans (hB38.mono HB3.out.size)
                  obtain ⟨⟨b0, b1, b2, b3, b4⟩, f0, f1, f2, f3, f4⟩ := blk5 hr8
                  obtain ⟨r1, r2, r3⟩ := ul_ret hO8 hBw8 hr8 (by omega) 107 (q : Int) true
                  have HFin := Lib.hid (⟨r1, r2⟩ : _ ∧ _)
                  obtain ⟨WF, hWF⟩ : ∃ WF, WF = set5 w8 w.heap.size 107 (q : Int) true := ⟨_, rfl⟩
                  rw [← hWF] at HFin r3
                  have HR3F := Lib.hid r3
                  unfold set5 at hWF
                  have HE : Hid (l = pre ∧ f = some (6, q)) := Lib.hid (by
                    have hbad : rd R p = .bad 6 q := by rw [HAt2.out]; unfold numAt; rw [← HBh.out, HNb.out]
                    have := lx_bad hbad
                    refine ⟨by rw [HL1.out, this, List.append_nil], by rw [HF1.out, this]⟩)
                  clear hB8 hB8' hB38 hr8 hO8 hBw8 r1 r2 r3 HOF HBF HbF
                  go_wp2
                  rw [← hWF]
                  obtain ⟨⟨d0, d1, d2, d3, d4⟩, _⟩ := blk5 HR3F.out
                  refine bodyPost_ret (v := .tuple #[.slice A pre.length c2, fault 107 true false (q : Int) 0]) (by simp [results, Tryd.results9, go_sem, d0, d1, d2, d3, d4]) rfl ⟨.slice A pre.length c2, ?_, ?_, HFin.out.2⟩
                  · rw [HE.out.2]; rfl
                  · rw [HE.out.1]; exact HFin.out.1
                | some v =>
                  have hv : numV (cutE R q b) = .tuple #[.int .i64 (v : Int), .bool true] := by unfold numV; rw [hnb]
                  rw [hv] at HNm
                  have HNb := Lib.hid hnb
                  clear hv hnb
                  by_cases hbl : b < len
                  · have hblI : (b : Int) < (len : Int) := by omega
                    have hcb := HPb5.out b (by have := HLen.out; omega)
                    have HLb := Lib.hid (fun W => HLs.out (at0 R b) W)
                    have HDb : Hid (digB (at0 R b : Int) = false) := Lib.hid (by have := bh_not (p := isDig) (R := R) (i := q) (by rw [← HBh.out]; have := HLen.out; omega); rw [← HBh.out] at this; exact this)
                    have HIn : Hid (inNm (at0 R b) = (letB (at0 R b : Int) || decide (at0 R b = 95))) := Lib.hid (by unfold inNm; rw [HDb.out, Bool.or_false])
                    obtain ⟨x, hx⟩ : ∃ x, x = at0 R b := ⟨_, rfl⟩
                    rw [← hx] at hcb HLb HIn
                    have HXx := Lib.hid hx
                    clear hx
                    cases hlb : letB (x : Int)
                    · rw [hlb] at HLb HIn
                      by_cases h95 : x = 95
                      · have h95' : ((x : Int) == 95) = true := by simp [h95]
                        have HI2 : Hid (inNm (at0 R b) = true) := Lib.hid (by rw [← HXx.out, HIn.out, h95]; rfl)
                        clear hlb h95
                        go_wp2_with fail
                        rw [← HW5.out]
                        clear HW5
                        refine (HNm.out _).mono ?_
                        rintro e w' ⟨rfl, rfl⟩
                        go_wp2_with fail
                        refine (HLb.out _).mono ?_
                        rintro e w' ⟨rfl, rfl⟩
                        go_wp2_with fail
                        refine (placed_any 107 (q : Int) _ (by decide)).mono ?_
                        rintro e w8 ⟨rfl, hB8⟩
                        have hB8' : Below (W5).heap.size (W5) w8 := by simpa only [World.size_setCell] using hB8
                        have hB38 := HBF.out.trans (hB8'.mono HBF.out.size)
                        have hr8 : Blk5 w8 w.heap.size 0 0 false := HR3'.out.below hB38 (by omega)
                        have hO8 := HOF.out.below hB8' (Nat.le_refl _)
                        have hBw8 := HB3.out.trans (hB38.mono HB3.out.size)
                        obtain ⟨⟨b0, b1, b2, b3, b4⟩, f0, f1, f2, f3, f4⟩ := blk5 hr8
                        obtain ⟨r1, r2, r3⟩ := ul_ret hO8 hBw8 hr8 (by omega) 107 (q : Int) true
                        have HFin := Lib.hid (⟨r1, r2⟩ : _ ∧ _)
                        obtain ⟨WF, hWF⟩ : ∃ WF, WF = set5 w8 w.heap.size 107 (q : Int) true := ⟨_, rfl⟩
                        rw [← hWF] at HFin r3
                        have HR3F := Lib.hid r3
                        unfold set5 at hWF
                        have HE : Hid (l = pre ∧ f = some (6, q)) := Lib.hid (by
                          have hbad : rd R p = .bad 6 q := by rw [HAt2.out]; unfold numAt; rw [← HBh.out, HNb.out]; dsimp only; rw [if_pos HI2.out]
                          have := lx_bad hbad
                          refine ⟨by rw [HL1.out, this, List.append_nil], by rw [HF1.out, this]⟩)
                        clear hB8 hB8' hB38 hr8 hO8 hBw8 r1 r2 r3 HOF HBF HbF
                        go_wp2
                        rw [← hWF]
                        obtain ⟨⟨d0, d1, d2, d3, d4⟩, _⟩ := blk5 HR3F.out
                        refine bodyPost_ret (v := .tuple #[.slice A pre.length c2, fault 107 true false (q : Int) 0]) (by simp [results, Tryd.results9, go_sem, d0, d1, d2, d3, d4]) rfl ⟨.slice A pre.length c2, ?_, ?_, HFin.out.2⟩
                        · rw [HE.out.2]; rfl
                        · rw [HE.out.1]; exact HFin.out.1
                      · have h95' : ((x : Int) == 95) = false := beq_eq_false_iff_ne.2 (by omega)
                        have HI2 : Hid (¬ inNm (at0 R b) = true) := Lib.hid (by rw [← HXx.out, HIn.out]; simp [h95])
                        clear hlb h95
                        go_wp2_with fail
                        rw [← HW5.out]
                        clear HW5
                        refine (HNm.out _).mono ?_
                        rintro e w' ⟨rfl, rfl⟩
                        go_wp2_with fail
                        refine (HLb.out _).mono ?_
                        rintro e w' ⟨rfl, rfl⟩
                        obtain ⟨⟨q0, q1, q2, q3⟩, j0, j1, j2, j3⟩ := blk4 HbF.out
                        have HOG : Hid (Ow LU (W5.setCell ⟨wr.heap.size, 3, none⟩ (.int .i64 (v : Int))) w3.heap.size (.slice A pre.length c2) pre) := Lib.hid (HOF.out.keep fun g2 hg2 => Below.heap_setCell _ _ _ g2 (by have := (HO.out.block g2 hg2).2; show g2 ≠ wr.heap.size; omega))
                        have HBG := Lib.hid (HBF.out.setCell (p := ⟨wr.heap.size, 3, none⟩) hwz (.int .i64 (v : Int)))
                        have HbG : Hid (Blk (W5.setCell ⟨wr.heap.size, 3, none⟩ (.int .i64 (v : Int))) wr.heap.size 38 #[.int .i64 3, .int .i64 (q : Int), .string X, .int .i64 (v : Int)]) := Lib.hid (HbF.out.set 3 (.int .i64 (v : Int)))
                        clear HOF HBF HbF hz5
                        have HOF := HOG
                        have HBF := HBG
                        have HbF := HbG
                        clear HOG HBG HbG
                        obtain ⟨v6, w6, hrun, hO6, hB6, -, -⟩ := append_ow_one LUat ⟨3, q, cutE R q b, v⟩ HOF.out (by omega) HBF.out.size
                        obtain ⟨A6, c6, rfl⟩ := hO6.slice
                        rw [show (pre ++ [(⟨3, q, cutE R q b, v⟩ : Tk)]).length = pre.length + 1 by rw [List.length_append]; rfl] at hrun hO6
                        have hrun2 : ∀ ty, (Builtin.append_ #[28, 28] ty #[.slice A pre.length c2, .slice (some ⟨W5.heap.size, 0, none⟩) 1 1]).run Tryd.prog ((W5.setCell ⟨wr.heap.size, 3, none⟩ (.int .i64 (v : Int))).alloc (.cells #[.int .i64 3, .int .i64 (q : Int), .string X, .int .i64 (v : Int)] 38)) = .ok (.slice A6 (pre.length + 1) c6) w6 := fun ty => by
                          have hen : (LU.enc ⟨3, q, cutE R q b, v⟩).toArray = #[.int .i64 3, .int .i64 (q : Int), .string X, .int .i64 (v : Int)] := by rw [HX.out]; rfl
                          have := hrun ty
                          rw [hen] at this
                          try simp only [World.size_setCell] at this
                          exact this
                        obtain ⟨⟨s0, s1, s2, s3⟩, g0, g1, g2, g3⟩ := blk4 HbF.out
                        have HRun := Lib.hid hrun2
                        have HO6 := Lib.hid hO6
                        have HB6 := Lib.hid (HBF.out.trans hB6)
                        have HStp : Hid (l = (pre ++ [(⟨3, q, cutE R q b, v⟩ : Tk)]) ++ (lx R (b)).1 ∧ f = (lx R (b)).2) := Lib.hid (by
                          have htok : rd R p = .tok ⟨3, q, cutE R q b, v⟩ (b) := by rw [HAt2.out]; unfold numAt; rw [← HBh.out, HNb.out]; dsimp only; rw [if_neg HI2.out]
                          have := lx_more HOk.out hp htok (by dsimp only; decide)
                          refine ⟨by rw [HL1.out, this, List.append_assoc]; rfl, by rw [HF1.out, this]⟩)
                        clear hrun hrun2 hO6 hB6 HOF HBF HbF
                        go_wp2_with (at_builtin; refine wpList_append_eq rfl _ _ 28 rfl _ _ (.slice A6 (pre.length + 1) c6) w6 rfl rfl (HRun.out _) ?_)
                        go_roundw
                        case rel => exact ⟨pre ++ [⟨3, q, cutE R q b, v⟩], A6, c6, b, HEnd, by rw [List.length_append]; rfl, HO6.out, by go_num, HStp.out.1, HStp.out.2, by rw [List.length_append, List.length_singleton]; omega, HB6.out⟩
                        case measure => simp [RowKit.intOf]; omega
                    · rw [hlb] at HLb HIn
                      have HI2 : Hid (inNm (at0 R b) = true) := Lib.hid (by rw [← HXx.out, HIn.out]; rfl)
                      clear hlb
                      go_wp2_with fail
                      rw [← HW5.out]
                      clear HW5
                      refine (HNm.out _).mono ?_
                      rintro e w' ⟨rfl, rfl⟩
                      go_wp2_with fail
                      refine (HLb.out _).mono ?_
                      rintro e w' ⟨rfl, rfl⟩
                      go_wp2_with fail
                      refine (placed_any 107 (q : Int) _ (by decide)).mono ?_
                      rintro e w8 ⟨rfl, hB8⟩
                      have hB8' : Below (W5).heap.size (W5) w8 := by simpa only [World.size_setCell] using hB8
                      have hB38 := HBF.out.trans (hB8'.mono HBF.out.size)
                      have hr8 : Blk5 w8 w.heap.size 0 0 false := HR3'.out.below hB38 (by omega)
                      have hO8 := HOF.out.below hB8' (Nat.le_refl _)
                      have hBw8 := HB3.out.trans (hB38.mono HB3.out.size)
                      obtain ⟨⟨b0, b1, b2, b3, b4⟩, f0, f1, f2, f3, f4⟩ := blk5 hr8
                      obtain ⟨r1, r2, r3⟩ := ul_ret hO8 hBw8 hr8 (by omega) 107 (q : Int) true
                      have HFin := Lib.hid (⟨r1, r2⟩ : _ ∧ _)
                      obtain ⟨WF, hWF⟩ : ∃ WF, WF = set5 w8 w.heap.size 107 (q : Int) true := ⟨_, rfl⟩
                      rw [← hWF] at HFin r3
                      have HR3F := Lib.hid r3
                      unfold set5 at hWF
                      have HE : Hid (l = pre ∧ f = some (6, q)) := Lib.hid (by
                        have hbad : rd R p = .bad 6 q := by rw [HAt2.out]; unfold numAt; rw [← HBh.out, HNb.out]; dsimp only; rw [if_pos HI2.out]
                        have := lx_bad hbad
                        refine ⟨by rw [HL1.out, this, List.append_nil], by rw [HF1.out, this]⟩)
                      clear hB8 hB8' hB38 hr8 hO8 hBw8 r1 r2 r3 HOF HBF HbF
                      go_wp2
                      rw [← hWF]
                      obtain ⟨⟨d0, d1, d2, d3, d4⟩, _⟩ := blk5 HR3F.out
                      refine bodyPost_ret (v := .tuple #[.slice A pre.length c2, fault 107 true false (q : Int) 0]) (by simp [results, Tryd.results9, go_sem, d0, d1, d2, d3, d4]) rfl ⟨.slice A pre.length c2, ?_, ?_, HFin.out.2⟩
                      · rw [HE.out.2]; rfl
                      · rw [HE.out.1]; exact HFin.out.1
                  · exact absurd hkl hbl
              · rw [hd] at HD1
                have HY := Lib.hid (show b = bh isDig R (k + 1) by rw [HKb.out, HS.out (by unfold isDig; exact hd)])
                clear hd HS HT
                go_wp2_with fail
                refine (HD1.out _).mono ?_
                rintro e w' ⟨rfl, rfl⟩
                go_wp2
                go_round
                case rel => exact ⟨k + 1, by omega, by omega, by go_num, HY.out⟩
                case measure => simp [RowKit.intOf]; omega
            · have hkI : decide ((k : Int) < (len : Int)) = false := decide_eq_false (by omega)
              have HY := Lib.hid (show b = k by rw [HKb.out]; exact bh_end (by have := HLen.out; omega))
              go_wp2_with fail
              obtain rfl := HY.out
              clear HY HKb
              go_wp2_with fail
              refine (HCu.out _).mono ?_
              rintro e w4 ⟨rfl, hB4⟩
              have hzb : wr.heap.size < wb.heap.size := HBx.out.lt
              have hz4 := hB4.size
              simp only [World.size_setCell] at hB4 hz4
              have hwz := HB.out.size
              have hbk : Blk w4 wr.heap.size 38 #[.int .i64 3, .int .i64 (q : Int), .string { data := #[] }, .int .i64 0] := (HBx.out.set 0 (.int .i64 3)).below hB4 hzb
              have hbt : Blk (w4.setCell ⟨wr.heap.size, 2, none⟩ (.string X)) wr.heap.size 38 #[.int .i64 3, .int .i64 (q : Int), .string X, .int .i64 0] := hbk.set 2 (.string X)
              have hOk : Ow LU (wb.setCell ⟨wr.heap.size, 0, none⟩ (.int .i64 3)) w3.heap.size (.slice A pre.length c2) pre := HOb.out.keep fun g2 hg2 => Below.heap_setCell _ _ _ g2 (by have := (HO.out.block g2 hg2).2; show g2 ≠ wr.heap.size; omega)
              have hO4 := hOk.below hB4 (by simp)
              have hO5 : Ow LU (w4.setCell ⟨wr.heap.size, 2, none⟩ (.string X)) w3.heap.size (.slice A pre.length c2) pre := hO4.keep fun g2 hg2 => Below.heap_setCell _ _ _ g2 (by have := (HO.out.block g2 hg2).2; show g2 ≠ wr.heap.size; omega)
              have hB5 : Below w3.heap.size w3 (w4.setCell ⟨wr.heap.size, 2, none⟩ (.string X)) := (((HBw.out.setCell (p := ⟨wr.heap.size, 0, none⟩) hwz _).trans (hB4.mono (by omega))).setCell (p := ⟨wr.heap.size, 2, none⟩) hwz _)
              obtain ⟨⟨y0, y1, y2, y3⟩, z0, z1, z2, z3⟩ := blk4 hbk
              have HPb5 : Hid (PR (w4.setCell ⟨wr.heap.size, 2, none⟩ (.string X)) g R) := Lib.hid fun k hk => (hB5.cell (p := ⟨g, k * 4, none⟩) hg2).trans (HPR.out k hk)
              have HOF := Lib.hid hO5
              have HBF := Lib.hid hB5
              have HbF := Lib.hid hbt
              clear hB4 hbk hOk hO4 hO5 hB5 hbt t0 t1 t2 t3 x0 x1 x2 x3
              obtain ⟨W5, hW5⟩ : ∃ W5, W5 = w4.setCell ⟨wr.heap.size, 2, none⟩ (.string X) := ⟨_, rfl⟩
              have hz5 : W5.heap.size = w4.heap.size := by rw [hW5]; simp
              rw [← hW5] at HPb5 HOF HBF HbF
              have HW5 := Lib.hid hW5
              clear hW5
              cases hnb : numB (cutE R q b) with
              | none =>
                have hv : numV (cutE R q b) = .tuple #[.int .i64 0, .bool false] := by unfold numV; rw [hnb]
                rw [hv] at HNm
                have HNb := Lib.hid hnb
                clear hv hnb
                go_wp2_with fail
                rw [← HW5.out]
                clear HW5
                refine (HNm.out _).mono ?_
                rintro e w' ⟨rfl, rfl⟩
                go_wp2_with fail
                refine (placed_any 107 (q : Int) _ (by decide)).mono ?_
                rintro e w8 ⟨rfl, hB8⟩
                have hB8' : Below (W5).heap.size (W5) w8 := by simpa only [World.size_setCell] using hB8
                have hB38 := HBF.out.trans (hB8'.mono HBF.out.size)
                have hr8 : Blk5 w8 w.heap.size 0 0 false := HR3'.out.below hB38 (by omega)
                have hO8 := HOF.out.below hB8' (Nat.le_refl _)
                have hBw8 := HB3.out.trans (hB38.mono HB3.out.size)
                obtain ⟨⟨b0, b1, b2, b3, b4⟩, f0, f1, f2, f3, f4⟩ := blk5 hr8
                obtain ⟨r1, r2, r3⟩ := ul_ret hO8 hBw8 hr8 (by omega) 107 (q : Int) true
                have HFin := Lib.hid (⟨r1, r2⟩ : _ ∧ _)
                obtain ⟨WF, hWF⟩ : ∃ WF, WF = set5 w8 w.heap.size 107 (q : Int) true := ⟨_, rfl⟩
                rw [← hWF] at HFin r3
                have HR3F := Lib.hid r3
                unfold set5 at hWF
                have HE : Hid (l = pre ∧ f = some (6, q)) := Lib.hid (by
                  have hbad : rd R p = .bad 6 q := by rw [HAt2.out]; unfold numAt; rw [← HBh.out, HNb.out]
                  have := lx_bad hbad
                  refine ⟨by rw [HL1.out, this, List.append_nil], by rw [HF1.out, this]⟩)
                clear hB8 hB8' hB38 hr8 hO8 hBw8 r1 r2 r3 HOF HBF HbF
                go_wp2
                rw [← hWF]
                obtain ⟨⟨d0, d1, d2, d3, d4⟩, _⟩ := blk5 HR3F.out
                refine bodyPost_ret (v := .tuple #[.slice A pre.length c2, fault 107 true false (q : Int) 0]) (by simp [results, Tryd.results9, go_sem, d0, d1, d2, d3, d4]) rfl ⟨.slice A pre.length c2, ?_, ?_, HFin.out.2⟩
                · rw [HE.out.2]; rfl
                · rw [HE.out.1]; exact HFin.out.1
              | some v =>
                have hv : numV (cutE R q b) = .tuple #[.int .i64 (v : Int), .bool true] := by unfold numV; rw [hnb]
                rw [hv] at HNm
                have HNb := Lib.hid hnb
                clear hv hnb
                by_cases hbl : b < len
                · exact absurd hbl hkl
                · have hblI : decide ((b : Int) < (len : Int)) = false := decide_eq_false (by omega)
                  have HI2 : Hid (¬ inNm (at0 R b) = true) := Lib.hid (by rw [at0_ge (by have := HLen.out; omega)]; decide)
                  go_wp2_with fail
                  rw [← HW5.out]
                  clear HW5
                  refine (HNm.out _).mono ?_
                  rintro e w' ⟨rfl, rfl⟩
                  obtain ⟨⟨q0, q1, q2, q3⟩, j0, j1, j2, j3⟩ := blk4 HbF.out
                  have HOG : Hid (Ow LU (W5.setCell ⟨wr.heap.size, 3, none⟩ (.int .i64 (v : Int))) w3.heap.size (.slice A pre.length c2) pre) := Lib.hid (HOF.out.keep fun g2 hg2 => Below.heap_setCell _ _ _ g2 (by have := (HO.out.block g2 hg2).2; show g2 ≠ wr.heap.size; omega))
                  have HBG := Lib.hid (HBF.out.setCell (p := ⟨wr.heap.size, 3, none⟩) hwz (.int .i64 (v : Int)))
                  have HbG : Hid (Blk (W5.setCell ⟨wr.heap.size, 3, none⟩ (.int .i64 (v : Int))) wr.heap.size 38 #[.int .i64 3, .int .i64 (q : Int), .string X, .int .i64 (v : Int)]) := Lib.hid (HbF.out.set 3 (.int .i64 (v : Int)))
                  clear HOF HBF HbF hz5
                  have HOF := HOG
                  have HBF := HBG
                  have HbF := HbG
                  clear HOG HBG HbG
                  obtain ⟨v6, w6, hrun, hO6, hB6, -, -⟩ := append_ow_one LUat ⟨3, q, cutE R q b, v⟩ HOF.out (by omega) HBF.out.size
                  obtain ⟨A6, c6, rfl⟩ := hO6.slice
                  rw [show (pre ++ [(⟨3, q, cutE R q b, v⟩ : Tk)]).length = pre.length + 1 by rw [List.length_append]; rfl] at hrun hO6
                  have hrun2 : ∀ ty, (Builtin.append_ #[28, 28] ty #[.slice A pre.length c2, .slice (some ⟨W5.heap.size, 0, none⟩) 1 1]).run Tryd.prog ((W5.setCell ⟨wr.heap.size, 3, none⟩ (.int .i64 (v : Int))).alloc (.cells #[.int .i64 3, .int .i64 (q : Int), .string X, .int .i64 (v : Int)] 38)) = .ok (.slice A6 (pre.length + 1) c6) w6 := fun ty => by
                    have hen : (LU.enc ⟨3, q, cutE R q b, v⟩).toArray = #[.int .i64 3, .int .i64 (q : Int), .string X, .int .i64 (v : Int)] := by rw [HX.out]; rfl
                    have := hrun ty
                    rw [hen] at this
                    try simp only [World.size_setCell] at this
                    exact this
                  obtain ⟨⟨s0, s1, s2, s3⟩, g0, g1, g2, g3⟩ := blk4 HbF.out
                  have HRun := Lib.hid hrun2
                  have HO6 := Lib.hid hO6
                  have HB6 := Lib.hid (HBF.out.trans hB6)
                  have HStp : Hid (l = (pre ++ [(⟨3, q, cutE R q b, v⟩ : Tk)]) ++ (lx R (b)).1 ∧ f = (lx R (b)).2) := Lib.hid (by
                    have htok : rd R p = .tok ⟨3, q, cutE R q b, v⟩ (b) := by rw [HAt2.out]; unfold numAt; rw [← HBh.out, HNb.out]; dsimp only; rw [if_neg HI2.out]
                    have := lx_more HOk.out hp htok (by dsimp only; decide)
                    refine ⟨by rw [HL1.out, this, List.append_assoc]; rfl, by rw [HF1.out, this]⟩)
                  clear hrun hrun2 hO6 hB6 HOF HBF HbF
                  go_wp2_with (at_builtin; refine wpList_append_eq rfl _ _ 28 rfl _ _ (.slice A6 (pre.length + 1) c6) w6 rfl rfl (HRun.out _) ?_)
                  go_roundw
                  case rel => exact ⟨pre ++ [⟨3, q, cutE R q b, v⟩], A6, c6, b, HEnd, by rw [List.length_append]; rfl, HO6.out, by go_num, HStp.out.1, HStp.out.2, by rw [List.length_append, List.length_singleton]; omega, HB6.out⟩
                  case measure => simp [RowKit.intOf]; omega
      · rw [hlt] at HLt HAt
        have HAt2 : Hid (rd R p = nameAt R q) := Lib.hid (by rw [HAt.out, if_pos rfl])
        have HWd := Lib.hid (rword_any g c R len q wb HLen.out hlc (by omega) (by omega) HPb.out)
        obtain ⟨b, hb⟩ : ∃ b, b = bh inNm R q := ⟨_, rfl⟩
        have hqb : q < b := by rw [hb]; exact bh_gt (p := inNm) hql (by rw [← HA.out]; unfold inNm; rw [hlt]; rfl)
        have hbR : b ≤ R.length := by rw [hb]; exact bh_le inNm R q (by omega)
        rw [← hb] at HWd
        have HEnd := hbR
        have HBh := Lib.hid hb
        clear hb hlt HDg
        have hRs : (rns s.data.toList).length = R.length := by rw [HR.out]
        have HCu := Lib.hid (fun W => rcut_any s q b W hs HN.out (by omega) (by omega))
        rw [← HR.out] at HCu
        obtain ⟨X, hX⟩ : ∃ X : ByteArray, X = ⟨(cutE R q b).toArray⟩ := ⟨_, rfl⟩
        rw [← hX] at HCu
        have hXs : X.size = (cutE R q b).length := by rw [hX]; simp [ByteArray.size]
        have HXs := Lib.hid hXs
        have HKw := Lib.hid (fun W => is_any X W)
        have HKw2 : Hid (kwB X = decide (cutE R q b ∈ kws)) := Lib.hid (by rw [hX]; rfl)
        have HX := Lib.hid hX
        clear hX hRs hXs HIs
        go_wp2_with fail
        rw [← hwb]
        clear hwb
        refine (HLt.out _).mono ?_
        rintro e w' ⟨rfl, rfl⟩
        go_wp2_with fail
        refine HWd.out.mono ?_
        rintro e w' ⟨rfl, rfl⟩
        go_wp2_with fail
        refine (HCu.out _).mono ?_
        rintro e w4 ⟨rfl, hB4⟩
        have hzb : wr.heap.size < wb.heap.size := HBx.out.lt
        have hz4 := hB4.size
        have hwz := HB.out.size
        have hbk : Blk w4 wr.heap.size 38 #[.int .i64 0, .int .i64 (q : Int), .string { data := #[] }, .int .i64 0] := HBx.out.below hB4 hzb
        have hbt : Blk (w4.setCell ⟨wr.heap.size, 2, none⟩ (.string X)) wr.heap.size 38 #[.int .i64 0, .int .i64 (q : Int), .string X, .int .i64 0] := hbk.set 2 (.string X)
        have hO4 := HOb.out.below hB4 (Nat.le_refl _)
        have hO5 : Ow LU (w4.setCell ⟨wr.heap.size, 2, none⟩ (.string X)) w3.heap.size (.slice A pre.length c2) pre := hO4.keep fun g2 hg2 => Below.heap_setCell _ _ _ g2 (by have := (HO.out.block g2 hg2).2; show g2 ≠ wr.heap.size; omega)
        have hB5 : Below w3.heap.size w3 (w4.setCell ⟨wr.heap.size, 2, none⟩ (.string X)) := (HBw.out.trans (hB4.mono (by omega))).setCell (p := ⟨wr.heap.size, 2, none⟩) hwz _
        obtain ⟨⟨y0, y1, y2, y3⟩, z0, z1, z2, z3⟩ := blk4 hbk
        obtain ⟨⟨s0, s1, s2, s3⟩, z4, z5, z6, z7⟩ := blk4 hbt
        by_cases hbig : 24 < X.size
        · have HOF := Lib.hid hO5
          have HBF := Lib.hid hB5
          have HbF := Lib.hid hbt
          have hbigI : (24 : Int) < (X.size : Int) := by omega
          have HBig := Lib.hid hbig
          clear hO4 hO5 hB5 hbt hbk hB4 hbig
          go_wp2_with fail
          refine (placed_any 103 (q : Int) _ (by decide)).mono ?_
          rintro e w8 ⟨rfl, hB8⟩
          have hB8' : Below (w4.setCell ⟨wr.heap.size, 2, none⟩ (.string X)).heap.size (w4.setCell ⟨wr.heap.size, 2, none⟩ (.string X)) w8 := by simpa only [World.size_setCell] using hB8
          have hB38 := HBF.out.trans (hB8'.mono HBF.out.size)
          have hr8 : Blk5 w8 w.heap.size 0 0 false := HR3'.out.below hB38 (by omega)
          have hO8 := HOF.out.below hB8' (Nat.le_refl _)
          have hBw8 := HB3.out.trans (hB38.mono HB3.out.size)
          obtain ⟨⟨b0, b1, b2, b3, b4⟩, f0, f1, f2, f3, f4⟩ := blk5 hr8
          obtain ⟨r1, r2, r3⟩ := ul_ret hO8 hBw8 hr8 (by omega) 103 (q : Int) true
          have HFin := Lib.hid (⟨r1, r2⟩ : _ ∧ _)
          obtain ⟨WF, hWF⟩ : ∃ WF, WF = set5 w8 w.heap.size 103 (q : Int) true := ⟨_, rfl⟩
          rw [← hWF] at HFin r3
          have HR3F := Lib.hid r3
          unfold set5 at hWF
          have HE : Hid (l = pre ∧ f = some (2, q)) := Lib.hid (by
            have hbad : rd R p = .bad 2 q := by rw [HAt2.out]; unfold nameAt; rw [← HBh.out, if_pos (by rw [← HXs.out]; exact HBig.out)]
            have := lx_bad hbad
            refine ⟨by rw [HL1.out, this, List.append_nil], by rw [HF1.out, this]⟩)
          clear hB8 hB8' hB38 hr8 hO8 hBw8 r1 r2 r3 HOF HBF HbF
          go_wp2
          rw [← hWF]
          obtain ⟨⟨d0, d1, d2, d3, d4⟩, _⟩ := blk5 HR3F.out
          refine bodyPost_ret (v := .tuple #[.slice A pre.length c2, fault 103 true false (q : Int) 0]) (by simp [results, Tryd.results9, go_sem, d0, d1, d2, d3, d4]) rfl ⟨.slice A pre.length c2, ?_, ?_, HFin.out.2⟩
          · rw [HE.out.2]; rfl
          · rw [HE.out.1]; exact HFin.out.1
        · have HBig := Lib.hid hbig
          have hbigI : (X.size : Int) ≤ 24 := by omega
          have hb1 : Blk ((w4.setCell ⟨wr.heap.size, 2, none⟩ (.string X)).setCell ⟨wr.heap.size, 0, none⟩ (.int .i64 1)) wr.heap.size 38 #[.int .i64 1, .int .i64 (q : Int), .string X, .int .i64 0] := hbt.set 0 (.int .i64 1)
          have hO6 : Ow LU ((w4.setCell ⟨wr.heap.size, 2, none⟩ (.string X)).setCell ⟨wr.heap.size, 0, none⟩ (.int .i64 1)) w3.heap.size (.slice A pre.length c2) pre := hO5.keep fun g2 hg2 => Below.heap_setCell _ _ _ g2 (by have := (HO.out.block g2 hg2).2; show g2 ≠ wr.heap.size; omega)
          have hB6 : Below w3.heap.size w3 ((w4.setCell ⟨wr.heap.size, 2, none⟩ (.string X)).setCell ⟨wr.heap.size, 0, none⟩ (.int .i64 1)) := hB5.setCell (p := ⟨wr.heap.size, 0, none⟩) hwz _
          have HO6 := Lib.hid hO6
          have HB6 := Lib.hid hB6
          have Hb1 := Lib.hid hb1
          have hz6 : wr.heap.size < ((w4.setCell ⟨wr.heap.size, 2, none⟩ (.string X)).setCell ⟨wr.heap.size, 0, none⟩ (.int .i64 1)).heap.size := hb1.lt
          clear hO4 hO5 hO6 hB5 hB6 hbt hb1 hbk hB4 hbig
          go_wp2_with fail
          refine (HKw.out _).mono ?_
          rintro e w7 ⟨rfl, hB7⟩
          have hB7' : Below ((w4.setCell ⟨wr.heap.size, 2, none⟩ (.string X)).setCell ⟨wr.heap.size, 0, none⟩ (.int .i64 1)).heap.size ((w4.setCell ⟨wr.heap.size, 2, none⟩ (.string X)).setCell ⟨wr.heap.size, 0, none⟩ (.int .i64 1)) w7 := by simpa only [World.size_setCell] using hB7
          have hb7 : Blk w7 wr.heap.size 38 #[.int .i64 1, .int .i64 (q : Int), .string X, .int .i64 0] := Hb1.out.below hB7' hz6
          have hO7 := HO6.out.below hB7' (Nat.le_refl _)
          have hB37 := HB6.out.trans (hB7'.mono HB6.out.size)
          obtain ⟨⟨k0, k1, k2, k3⟩, m0, m1, m2, m3⟩ := blk4 hb7
          clear hB7 hB7' Hb1 HO6 HB6 HKw y0 y1 y2 y3 z0 z1 z2 z3 s0 s1 s2 s3 z4 z5 z6 z7
          cases hkw : kwB X
          · have HbF := Lib.hid hb7
            have HOF := Lib.hid hO7
            have HBF := Lib.hid hB37
            have HK : Hid (¬ cutE R q b ∈ kws) := Lib.hid (by have := HKw2.out; rw [hkw] at this; simpa using this.symm)
            clear hb7 hO7 hB37 hkw HKw2
            have hnb : ¬ 24 < (cutE R q b).length := by rw [← HXs.out]; exact HBig.out
            have HNb := Lib.hid hnb
            clear hnb
            obtain ⟨v6, w6, hrun, hO6, hB6, -, -⟩ := append_ow_one LUat ⟨1, q, cutE R q b, 0⟩ HOF.out (by omega) HBF.out.size
            obtain ⟨A6, c6, rfl⟩ := hO6.slice
            rw [show (pre ++ [(⟨1, q, cutE R q b, 0⟩ : Tk)]).length = pre.length + 1 by rw [List.length_append]; rfl] at hrun hO6
            have hrun2 : ∀ ty, (Builtin.append_ #[28, 28] ty #[.slice A pre.length c2, .slice (some ⟨w7.heap.size, 0, none⟩) 1 1]).run Tryd.prog (w7.alloc (.cells #[.int .i64 1, .int .i64 (q : Int), .string X, .int .i64 0] 38)) = .ok (.slice A6 (pre.length + 1) c6) w6 := fun ty => by
              have hen : (LU.enc ⟨1, q, cutE R q b, 0⟩).toArray = #[.int .i64 1, .int .i64 (q : Int), .string X, .int .i64 0] := by rw [HX.out]; rfl
              have := hrun ty
              rw [hen] at this
              try simp only [World.size_setCell] at this
              exact this
            obtain ⟨⟨s0, s1, s2, s3⟩, g0, g1, g2, g3⟩ := blk4 HbF.out
            have HRun := Lib.hid hrun2
            have HO6 := Lib.hid hO6
            have HB6 := Lib.hid (HBF.out.trans hB6)
            have HStp : Hid (l = (pre ++ [(⟨1, q, cutE R q b, 0⟩ : Tk)]) ++ (lx R (b)).1 ∧ f = (lx R (b)).2) := Lib.hid (by
              have htok : rd R p = .tok ⟨1, q, cutE R q b, 0⟩ (b) := by rw [HAt2.out]; unfold nameAt; rw [← HBh.out, if_neg HNb.out, if_neg HK.out]
              have := lx_more HOk.out hp htok (by dsimp only; decide)
              refine ⟨by rw [HL1.out, this, List.append_assoc]; rfl, by rw [HF1.out, this]⟩)
            clear hrun hrun2 hO6 hB6 HOF HBF HbF
            go_wp2_with (at_builtin; refine wpList_append_eq rfl _ _ 28 rfl _ _ (.slice A6 (pre.length + 1) c6) w6 rfl rfl (HRun.out _) ?_)
            go_roundw
            case rel => exact ⟨pre ++ [⟨1, q, cutE R q b, 0⟩], A6, c6, b, HEnd, by rw [List.length_append]; rfl, HO6.out, by go_num, HStp.out.1, HStp.out.2, by rw [List.length_append, List.length_singleton]; omega, HB6.out⟩
            case measure => simp [RowKit.intOf]; omega
          · have HbF : Hid (Blk (w7.setCell ⟨wr.heap.size, 0, none⟩ (.int .i64 2)) wr.heap.size 38 #[.int .i64 2, .int .i64 (q : Int), .string X, .int .i64 0]) := Lib.hid (hb7.set 0 (.int .i64 2))
            have HOF : Hid (Ow LU (w7.setCell ⟨wr.heap.size, 0, none⟩ (.int .i64 2)) w3.heap.size (.slice A pre.length c2) pre) := Lib.hid (hO7.keep fun g2 hg2 => Below.heap_setCell _ _ _ g2 (by have := (HO.out.block g2 hg2).2; show g2 ≠ wr.heap.size; omega))
            have HBF := Lib.hid (hB37.setCell (p := ⟨wr.heap.size, 0, none⟩) hwz (.int .i64 2))
            have HK : Hid (cutE R q b ∈ kws) := Lib.hid (by have := HKw2.out; rw [hkw] at this; simpa using this.symm)
            clear hb7 hO7 hB37 hkw HKw2
            have hnb : ¬ 24 < (cutE R q b).length := by rw [← HXs.out]; exact HBig.out
            have HNb := Lib.hid hnb
            clear hnb
            obtain ⟨v6, w6, hrun, hO6, hB6, -, -⟩ := append_ow_one LUat ⟨2, q, cutE R q b, 0⟩ HOF.out (by omega) HBF.out.size
            obtain ⟨A6, c6, rfl⟩ := hO6.slice
            rw [show (pre ++ [(⟨2, q, cutE R q b, 0⟩ : Tk)]).length = pre.length + 1 by rw [List.length_append]; rfl] at hrun hO6
            have hrun2 : ∀ ty, (Builtin.append_ #[28, 28] ty #[.slice A pre.length c2, .slice (some ⟨w7.heap.size, 0, none⟩) 1 1]).run Tryd.prog ((w7.setCell ⟨wr.heap.size, 0, none⟩ (.int .i64 2)).alloc (.cells #[.int .i64 2, .int .i64 (q : Int), .string X, .int .i64 0] 38)) = .ok (.slice A6 (pre.length + 1) c6) w6 := fun ty => by
              have hen : (LU.enc ⟨2, q, cutE R q b, 0⟩).toArray = #[.int .i64 2, .int .i64 (q : Int), .string X, .int .i64 0] := by rw [HX.out]; rfl
              have := hrun ty
              rw [hen] at this
              try simp only [World.size_setCell] at this
              exact this
            obtain ⟨⟨s0, s1, s2, s3⟩, g0, g1, g2, g3⟩ := blk4 HbF.out
            have HRun := Lib.hid hrun2
            have HO6 := Lib.hid hO6
            have HB6 := Lib.hid (HBF.out.trans hB6)
            have HStp : Hid (l = (pre ++ [(⟨2, q, cutE R q b, 0⟩ : Tk)]) ++ (lx R (b)).1 ∧ f = (lx R (b)).2) := Lib.hid (by
              have htok : rd R p = .tok ⟨2, q, cutE R q b, 0⟩ (b) := by rw [HAt2.out]; unfold nameAt; rw [← HBh.out, if_neg HNb.out, if_pos HK.out]
              have := lx_more HOk.out hp htok (by dsimp only; decide)
              refine ⟨by rw [HL1.out, this, List.append_assoc]; rfl, by rw [HF1.out, this]⟩)
            clear hrun hrun2 hO6 hB6 HOF HBF HbF
            go_wp2_with (at_builtin; refine wpList_append_eq rfl _ _ 28 rfl _ _ (.slice A6 (pre.length + 1) c6) w6 rfl rfl (HRun.out _) ?_)
            go_roundw
            case rel => exact ⟨pre ++ [⟨2, q, cutE R q b, 0⟩], A6, c6, b, HEnd, by rw [List.length_append]; rfl, HO6.out, by go_num, HStp.out.1, HStp.out.2, by rw [List.length_append, List.length_singleton]; omega, HB6.out⟩
            case measure => simp [RowKit.intOf]; omega
end Go.Proofs.YtndagbmcdpafjaaDoor
