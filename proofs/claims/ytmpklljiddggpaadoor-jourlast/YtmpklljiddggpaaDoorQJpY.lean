/-
  The walk of JourLast. Conditions: each theorem's own premises.
-/
import Derived.Test.YtmpklljiddggpaaDoorQJpX
namespace Go.Proofs.YtmpklljiddggpaaDoor
open Go.Shelf Go.RowKit Go.Lib Go.Sort
attribute [local go_sem] Oper.semAt_some

/-- Five numbers, as cells. -/
def havC (h : Nat → Nat) : Array Value := #[.int .i64 (h 0 : Int), .int .i64 (h 1 : Int), .int .i64 (h 2 : Int), .int .i64 (h 3 : Int), .int .i64 (h 4 : Int)]
theorem havC_at (h : Nat → Nat) (k : Nat) (hk : k < 5) : (havC h)[k]? = some (.int .i64 (h k : Int)) := by
  match k, hk with
  | 0, _ => rfl
  | 1, _ => rfl
  | 2, _ => rfl
  | 3, _ => rfl
  | 4, _ => rfl
theorem havC_set (h : Nat → Nat) (k x : Nat) (hk : k < 5) : (havC h).setIfInBounds k (.int .i64 (x : Int)) = havC fun j => if k = j then x else h j := by
  match k, hk with
  | 0, _ => rfl
  | 1, _ => rfl
  | 2, _ => rfl
  | 3, _ => rfl
  | 4, _ => rfl
theorem infoInt : (Tryd.prog.info? 3).map (fun i => (i.zero, i.size, i.bytes)) = some (some (.int .i64 0), 1, 8) := by kernel_rfl
theorem make_five (w : World) : (Instr.makeSlice 48 (.int .i64 5) (.int .i64 5)).run Tryd.prog w = .ok (.slice (some ⟨w.heap.size, 0, none⟩) 5 5) (w.alloc (.cells (havC fun _ => 0) 3)) := by
  obtain ⟨i, hi, hz, hs, hb⟩ := info_parts infoInt
  have := run_make (P := Tryd.prog) w 48 3 i _ Tryd.underlying48 hi hz .i64 .i64 5 5 (by omega) (by omega) (by rw [hb]; omega) (by omega)
  have h5 : madeCells (Value.int .i64 0).cells (Int.toNat 5 * 1) = havC fun _ => 0 := by kernel_rfl
  rw [this, hs, h5]
  rfl
theorem int_succ (i : Nat) : (.int .i64 ((i : Int) + 1) : Value) = .int .i64 ((i + 1 : Nat) : Int) := by simp
theorem hav_set (l : List Int) (i : Nat) : (fun j => if k5 (l.getD i 0) = j then (if (l.getD i 0).tmod 3 = 0 then 0 else i + 1) else hav l i j) = hav l (i + 1) := rfl

set_option maxRecDepth 100000 in
set_option maxHeartbeats 4000000 in
theorem jlast_any (A : Option Addr) (c : Nat) (l : List Int) (w : World) (aE aS aR aC aF aM : Addr) (he : Errs w aE aS aR) (hE : Es w aR aC aF aM) (hT : Tab w) (hI : Ints w w.heap.size A l) :
    Calls Tryd.prog 7 #[.slice A l.length c] w (RetYes w) := by
  have HE := Lib.hid hE
  have He := Lib.hid he
  have HT := Lib.hid hT
  have HI := Lib.hid hI
  have HT0 := HT
  have hch := chap_any w _ _ _ _ _ _ He.out HE.out
  clear hE he hT hI
  go_enter Tryd.func7, Tryd.ntmps7
  go_wp2_with fail
  refine hch.mono ?_
  rintro e w1 ⟨rfl, hB1⟩
  have HB1 := Lib.hid hB1
  clear hch hB1
  by_cases h30 : 30 < l.length
  · have h30I : (30 : Int) < l.length := by omega
    go_wp2
    go_ret
    exact ⟨rfl, HB1.out⟩
  have h30I : ¬ (30 : Int) < l.length := by omega
  have hop := opened_any 400 w1 _ _ _ _ _ _ (by omega) (by omega) (He.out.below HB1.out (Nat.le_refl _)) (HE.out.fr ((Fr.refl [] w).belows HB1.out (Nat.le_refl _)) (by simp))
  go_wp2_with fail
  refine hop.mono ?_
  intro e w2 h2
  obtain ⟨g, f, m, sb, v, rfl, hSt⟩ := h2.sto HB1.out
  have HSt := Lib.hid hSt
  have HT2 := Lib.hid (HT.out.below hSt.un)
  have HI2 : Hid (Ints w2 w.heap.size A l) := Lib.hid (HI.out.keep fun p _ hp => hSt.un.cell hp)
  have HR0 := Lib.hid (show (newSt 400).r = [] from rfl)
  have hww : w.heap.size ≤ w2.heap.size := hSt.un.size
  have HGl : Hid (g < w2.heap.size ∧ f < w2.heap.size ∧ m < w2.heap.size ∧ sb < w2.heap.size) := Lib.hid ⟨hSt.jr.dk.gl, hSt.jr.dk.fl, hSt.jr.dk.ml, Blk.lt hSt.jr.st⟩
  generalize newSt 400 = t0 at *
  clear h2 hop hSt HB1 HT HI
  have hmk := make_five w2
  have hB3 : Below w2.heap.size w2 (w2.alloc (.cells (havC fun _ => 0) 3)) := (Below.refl _ w2).alloc (Nat.le_refl _) _
  have hF3 : Blk (w2.alloc (.cells (havC fun _ => 0) 3)) w2.heap.size 3 (havC fun _ => 0) := heap_alloc_new w2 _
  have hz3 : (w2.alloc (.cells (havC fun _ => 0) 3)).heap.size = w2.heap.size + 1 := by simp
  go_upto_region 12 with fail
  clear hmk
  generalize w2.alloc (.cells (havC fun _ => 0) 3) = w3 at *
  have HB3 := Lib.hid hB3
  have HF3 := Lib.hid hF3
  have HZ3 := Lib.hid hz3
  clear hB3 hF3 hz3
  go_loopg [7, 8, 9, 10] l.length (fun kx s7 s8 _ _ wr => ∃ i : Nat, s8 = .int .i64 i ∧ i ≤ l.length ∧ l.length - i ≤ kx ∧ Hid (Ow LCh wr (w2.heap.size + 1) s7 (lasL l i)) ∧ Hid (Blk wr w2.heap.size 3 (havC (hav l i))) ∧ Hid (Below w2.heap.size w2 wr))
  case atStart => exact ⟨0, rfl, by omega, by omega, Lib.hid (Ow.nil _ _ _), HF3, HB3⟩
  case round =>
    clear HF3 HB3
    obtain ⟨i, rfl, hin, hix, HO, HF, HB⟩ := hrel
    by_cases hlt : i < l.length
    · have hltI : (i : Int) < l.length := by omega
      obtain ⟨ad, rfl, hbl, p0⟩ := (HI2.out.keep (w' := wr) fun p _ hp => HB.out.cell (by omega)).pick hlt
      have HZ : Hid (l.getD i 0 = l[i]) := Lib.hid (by rw [List.getD_eq_getElem?_getD, List.getElem?_eq_getElem hlt]; rfl)
      have hnu := number_any l[i] 5 wr (by omega) (by omega)
      rw [k5_int] at hnu
      have hk5 := k5_lt l[i]
      generalize l[i] = z at *
      go_wp2_with fail
      refine hnu.mono ?_
      rintro e w4 ⟨rfl, rfl⟩
      clear hnu
      by_cases hg : z.tmod 3 = 0
      · have hgB : (z.tmod 3 == 0) = true := by rw [hg]; rfl
        obtain ⟨x, hx⟩ : ∃ x : Chg, x = ⟨keyK (k5 z), dig i, true⟩ := ⟨_, rfl⟩
        have HX : Hid (lasL l (i + 1) = lasL l i ++ [x]) := Lib.hid (by rw [hx]; show lasL l i ++ [lasC (l.getD i 0) i] = _; rw [HZ.out]; unfold lasC; rw [decide_eq_true hg])
        have hnum := num_any' (k5 z) wr (by omega) (HT2.out.below HB.out)
        have hdk := dig_length (n := k5 z) (by omega)
        go_wp2_with fail
        refine hnum.mono ?_
        rintro e w5 ⟨rfl, hB5⟩
        have hnum2 := num_any' i w5 (by omega) (HT2.out.below (HB.out.trans (hB5.mono HB.out.size)))
        have HB5 := Lib.hid hB5
        clear hB5 hnum p0
        go_wp2_with fail
        refine hnum2.mono ?_
        rintro e w6 ⟨rfl, hB6⟩
        have hB06 := HB5.out.trans (hB6.mono HB5.out.size)
        have HB6 := Lib.hid (HB.out.trans (hB06.mono HB.out.size))
        have HO6 := Lib.hid (HO.out.below hB06 (Nat.le_refl _))
        have HF6 := Lib.hid (HF.out.below hB06 HF.out.lt)
        have hs6 : w2.heap.size + 1 ≤ w6.heap.size := HF6.out.lt
        obtain ⟨v7, w7, hrun, hO7, _, hB7⟩ := append_ow_one LChat x HO6.out (by rw [lasL_length]; omega) hs6
        have hB7 := hB7 (w2.heap.size + 1) hs6 fun j hj => (HO6.out.block j hj).1
        have hrun' : ∀ ty, (Builtin.append_ #[30, 30] ty #[u7, .slice (some ⟨w6.heap.size, 0, none⟩) 1 1]).run Tryd.prog (w6.alloc (.cells #[.string ⟨([107] ++ dig (k5 z)).toArray⟩, .string ⟨(dig i).toArray⟩, .bool true] 52)) = .ok v7 w7 := by rw [hx] at hrun; exact hrun
        have HO7 := Lib.hid hO7
        have hF7 := HF6.out.below hB7 (Nat.lt_succ_self _)
        have HB7 := Lib.hid (HB6.out.trans (hB7.mono (by omega)))
        have hc : w7.cell? ⟨w2.heap.size, k5 z, none⟩ = some (.int .i64 (hav l i (k5 z) : Int)) := (hF7.cell _).trans (havC_at _ _ hk5)
        have hfz := hF7.free (k5 z)
        have hl7 := hF7.lt
        have hk5I : (k5 z : Int) < 5 := by omega
        have hF8 := hF7.set (k5 z) (.int .i64 ((i : Int) + 1))
        rw [int_succ, havC_set _ _ _ hk5] at hF8
        have hc8 : (w7.setCell ⟨w2.heap.size, k5 z, none⟩ (.int .i64 ((i : Int) + 1))).cell? ⟨w2.heap.size, k5 z, none⟩ = some (.int .i64 ((i : Int) + 1)) := by rw [int_succ]; refine (hF8.cell _).trans ((havC_at _ _ hk5).trans ?_); rw [if_pos rfl]
        have hfz8 : (w7.setCell ⟨w2.heap.size, k5 z, none⟩ (.int .i64 ((i : Int) + 1))).frozen? ⟨w2.heap.size, k5 z, none⟩ = false := by rw [int_succ]; exact hF8.free _
        have hF9 := hF8.set (k5 z) (.int .i64 ((0 : Nat) : Int))
        rw [havC_set _ _ _ hk5] at hF9
        have hs : (fun j => if k5 z = j then 0 else (if k5 z = j then i + 1 else hav l i j)) = hav l (i + 1) := by rw [← hav_set, HZ.out]; funext j; by_cases e : k5 z = j <;> simp [e, hg]
        rw [hs] at hF9
        have HF9 : Hid (Blk ((w7.setCell ⟨w2.heap.size, k5 z, none⟩ (.int .i64 ((i : Int) + 1))).setCell ⟨w2.heap.size, k5 z, none⟩ (.int .i64 0)) w2.heap.size 3 (havC (hav l (i + 1)))) := Lib.hid (by rw [int_succ]; exact hF9)
        have HO9 : Hid (Ow LCh ((w7.setCell ⟨w2.heap.size, k5 z, none⟩ (.int .i64 ((i : Int) + 1))).setCell ⟨w2.heap.size, k5 z, none⟩ (.int .i64 0)) (w2.heap.size + 1) v7 (lasL l (i + 1))) := Lib.hid (by
          rw [HX.out]
          refine HO7.out.keep fun q hq => ?_
          have hne : q ≠ w2.heap.size := by have := (HO7.out.block q hq).1; omega
          exact (Below.heap_setCell _ _ _ q hne).trans (Below.heap_setCell w7 _ _ q hne))
        have HB9 : Hid (Below w2.heap.size w2 ((w7.setCell ⟨w2.heap.size, k5 z, none⟩ (.int .i64 ((i : Int) + 1))).setCell ⟨w2.heap.size, k5 z, none⟩ (.int .i64 0))) := Lib.hid ((HB7.out.setCell (Nat.le_refl _) _).setCell (Nat.le_refl _) _)
        clear hnum2 hB6 hB06 hrun hO7 hB7 hF7 hF8 hF9 hs HO6 HF6 HB6 HB7 HO HF HB HX hx
        generalize dig i = di at *
        generalize dig (k5 z) = dk at *
        go_wp2_with (first | (at_builtin; refine Lib.wpList_append_run _ rfl _ _ _ _ rfl _ _ rfl rfl _ _ (hrun' _) ?_) | go_in)
        go_roundg (l.length - (i + 1))
        case measure => omega
        case rel => exact ⟨i + 1, by go_num, by omega, Nat.le_refl _, HO9, HF9, HB9⟩
      · have hgB : (z.tmod 3 == 0) = false := by rw [beq_eq_false_iff_ne]; exact hg
        obtain ⟨x, hx⟩ : ∃ x : Chg, x = ⟨keyK (k5 z), dig i, false⟩ := ⟨_, rfl⟩
        have HX : Hid (lasL l (i + 1) = lasL l i ++ [x]) := Lib.hid (by rw [hx]; show lasL l i ++ [lasC (l.getD i 0) i] = _; rw [HZ.out]; unfold lasC; rw [decide_eq_false hg])
        have hnum := num_any' (k5 z) wr (by omega) (HT2.out.below HB.out)
        have hdk := dig_length (n := k5 z) (by omega)
        go_wp2_with fail
        refine hnum.mono ?_
        rintro e w5 ⟨rfl, hB5⟩
        have hnum2 := num_any' i w5 (by omega) (HT2.out.below (HB.out.trans (hB5.mono HB.out.size)))
        have HB5 := Lib.hid hB5
        clear hB5 hnum p0
        go_wp2_with fail
        refine hnum2.mono ?_
        rintro e w6 ⟨rfl, hB6⟩
        have hB06 := HB5.out.trans (hB6.mono HB5.out.size)
        have HB6 := Lib.hid (HB.out.trans (hB06.mono HB.out.size))
        have HO6 := Lib.hid (HO.out.below hB06 (Nat.le_refl _))
        have HF6 := Lib.hid (HF.out.below hB06 HF.out.lt)
        have hs6 : w2.heap.size + 1 ≤ w6.heap.size := HF6.out.lt
        obtain ⟨v7, w7, hrun, hO7, _, hB7⟩ := append_ow_one LChat x HO6.out (by rw [lasL_length]; omega) hs6
        have hB7 := hB7 (w2.heap.size + 1) hs6 fun j hj => (HO6.out.block j hj).1
        have hrun' : ∀ ty, (Builtin.append_ #[30, 30] ty #[u7, .slice (some ⟨w6.heap.size, 0, none⟩) 1 1]).run Tryd.prog (w6.alloc (.cells #[.string ⟨([107] ++ dig (k5 z)).toArray⟩, .string ⟨(dig i).toArray⟩, .bool false] 52)) = .ok v7 w7 := by rw [hx] at hrun; exact hrun
        have HO7 := Lib.hid hO7
        have hF7 := HF6.out.below hB7 (Nat.lt_succ_self _)
        have HB7 := Lib.hid (HB6.out.trans (hB7.mono (by omega)))
        have hc : w7.cell? ⟨w2.heap.size, k5 z, none⟩ = some (.int .i64 (hav l i (k5 z) : Int)) := (hF7.cell _).trans (havC_at _ _ hk5)
        have hfz := hF7.free (k5 z)
        have hl7 := hF7.lt
        have hk5I : (k5 z : Int) < 5 := by omega
        have hF8 := hF7.set (k5 z) (.int .i64 ((i : Int) + 1))
        rw [int_succ, havC_set _ _ _ hk5] at hF8
        have hs : (fun j => if k5 z = j then i + 1 else hav l i j) = hav l (i + 1) := by rw [← hav_set, HZ.out]; funext j; by_cases e : k5 z = j <;> simp [e, hg]
        rw [hs] at hF8
        have HF9 : Hid (Blk (w7.setCell ⟨w2.heap.size, k5 z, none⟩ (.int .i64 ((i : Int) + 1))) w2.heap.size 3 (havC (hav l (i + 1)))) := Lib.hid (by rw [int_succ]; exact hF8)
        have HO9 : Hid (Ow LCh (w7.setCell ⟨w2.heap.size, k5 z, none⟩ (.int .i64 ((i : Int) + 1))) (w2.heap.size + 1) v7 (lasL l (i + 1))) := Lib.hid (by
          rw [HX.out]
          refine HO7.out.keep fun q hq => ?_
          have hne : q ≠ w2.heap.size := by have := (HO7.out.block q hq).1; omega
          exact Below.heap_setCell w7 _ _ q hne)
        have HB9 : Hid (Below w2.heap.size w2 (w7.setCell ⟨w2.heap.size, k5 z, none⟩ (.int .i64 ((i : Int) + 1)))) := Lib.hid (HB7.out.setCell (Nat.le_refl _) _)
        clear hnum2 hB6 hB06 hrun hO7 hB7 hF7 hF8 hs HO6 HF6 HB6 HB7 HO HF HB HX hx
        generalize dig i = di at *
        generalize dig (k5 z) = dk at *
        go_wp2_with (first | (at_builtin; refine Lib.wpList_append_run _ rfl _ _ _ _ rfl _ _ rfl rfl _ _ (hrun' _) ?_) | go_in)
        go_roundg (l.length - (i + 1))
        case measure => omega
        case rel => exact ⟨i + 1, by go_num, by omega, Nat.le_refl _, HO9, HF9, HB9⟩
    · have hltI : ¬ (i : Int) < l.length := by omega
      obtain rfl : i = l.length := by omega
      obtain ⟨A4, c4, rfl, hC4, hz4⟩ := HO.out.chs3
      have hS4 := HSt.out.below HB.out
      have hcm := Sto.commit hS4 He.out HE.out (by omega) (by omega) hC4 hz4 (by rw [lasL_length]; omega)
      rw [lasL_length] at hcm ⊢
      have hda := las_says (n := l.length) l HSt.out.ok HR0.out (by omega)
      have HDa := Lib.hid hda
      clear hda hC4 hz4 HO HSt HR0 hS4
      go_wp2_with fail
      refine hcm.mono ?_
      intro e w4 h4
      obtain ⟨m4, v4, _, h4, hF4, hS4⟩ := h4
      obtain rfl : e = .returned .nilIface := by rw [HDa.out.1] at h4; exact h4
      have hr4 := HDa.out.2
      generalize (comm t0 (lasL l l.length)).2 = t1 at *
      have HS4 := Lib.hid hS4
      have HR4 := Lib.hid hr4
      have HV4 := Lib.hid (HF.out.fr hF4 (by
        have := HGl.out
        simp only [List.mem_cons, List.not_mem_nil, not_or, or_false]
        omega))
      have HT4 : Hid (Tab w4) := Lib.hid (Tab.below HT0.out hS4.un)
      clear hcm h4 hF4 hS4 hr4 HDa HF HB
      go_wp2
      go_loopg [11, 12, 13, 14] 5 (fun kx s11 s12 _ _ wr => ∃ k : Nat, s12 = .int .i64 k ∧ k ≤ 5 ∧ 5 - k ≤ kx ∧ Hid (Ow LT wr w4.heap.size s11 (wantK l l.length k)) ∧ Hid (Below w4.heap.size w4 wr))
      case atStart => exact ⟨0, rfl, by omega, by omega, Lib.hid (Ow.nil _ _ _), Lib.hid (Below.refl _ _)⟩
      case round =>
        obtain ⟨k, rfl, hkn, hkx, HO, HB⟩ := hrel
        by_cases hk : k < 5
        · have hkI : (k : Int) < 5 := by omega
          have hnum := num_any' k wr (by omega) (HT4.out.below HB.out)
          have hdk := dig_length (n := k) (by omega)
          obtain ⟨lg1, lg2⟩ := las_get l l.length k hk
          have hhl := hav_le l l.length k
          have HL2 := Lib.hid lg2
          have HWn := Lib.hid (wantK_next l l.length k)
          have HWl := Lib.hid (wantK_length l l.length k)
          go_wp2_with fail
          refine hnum.mono ?_
          rintro e w5 ⟨rfl, hB5⟩
          have hB45 := HB.out.trans (hB5.mono HB.out.size)
          have hS5 := HS4.out.below hB45
          have hgt := hS5.get (keyK k)
          rw [HR4.out] at hgt
          unfold RetGet at hgt
          rw [lg1] at hgt
          have hgt' : Calls Tryd.prog 17 #[.pointer (some ⟨sb, 0, none⟩), .string ⟨([107] ++ dig k).toArray⟩] w5 (fun e w' => e = .returned (.tuple #[.string ⟨(getV (keyK k) (recsK l l.length 5)).toArray⟩, .bool (decide (0 < hav l l.length k))]) ∧ Below w5.heap.size w5 w') := hgt
          have HB45 := Lib.hid hB45
          have HO5 := Lib.hid (HO.out.below hB5 (Nat.le_refl _))
          clear hnum hB5 hgt HO HB lg1 lg2 hB45 hS5
          have HDg : Hid (∀ P : List UInt8 → Prop, P (dig k) → P (dig k)) := Lib.hid fun _ h => h
          go_wp2_with fail
          refine hgt'.mono ?_
          rintro e w6 ⟨rfl, hB6⟩
          have hB46 := HB45.out.trans (hB6.mono HB45.out.size)
          have HB46 := Lib.hid hB46
          have HO6 := Lib.hid (HO5.out.below hB6 (Nat.le_refl _))
          have hc6 : w6.cell? ⟨w2.heap.size, k, none⟩ = some (.int .i64 (hav l l.length k : Int)) := ((HV4.out.below hB46 HV4.out.lt).cell k).trans (havC_at _ _ hk)
          clear hgt' hB6 hB46 HB45 HO5
          by_cases hz : hav l l.length k = 0
          · have HW0 : Hid (wantK l l.length (k + 1) = wantK l l.length k) := Lib.hid (by rw [HWn.out, if_neg (by omega)])
            rw [hz] at hc6 ⊢
            clear hz HL2 HWn HDg
            generalize getV (keyK k) (recsK l l.length 5) = gv
            go_wp2
            go_roundg (5 - (k + 1))
            case measure => omega
            case rel => exact ⟨k + 1, by go_num, by omega, Nat.le_refl _, Lib.hid (by rw [HW0.out]; exact HO6.out), HB46⟩
          · obtain ⟨h, hh⟩ : ∃ h, hav l l.length k = h + 1 := ⟨hav l l.length k - 1, by omega⟩
            have HW1 : Hid (wantK l l.length (k + 1) = wantK l l.length k ++ [keyK k]) := Lib.hid (by rw [HWn.out, if_pos (by omega)])
            have hgv := HL2.out (by omega)
            rw [hh, Nat.add_sub_cancel] at hgv
            rw [hgv]
            rw [hh] at hc6 hhl ⊢
            clear hz HL2 HWn hgv hh
            have hnum2 := num_any' h w6 (by omega) (HT4.out.below HB46.out)
            have hhI : ((h + 1 : Nat) : Int) - 1 = (h : Int) := by omega
            have hhP : (0 : Int) < ((h + 1 : Nat) : Int) := by omega
            have hhB : ((h + 1 : Nat) : Int) ≤ 100 := by omega
            generalize ((h + 1 : Nat) : Int) = hi at *
            rw [show (decide (0 < h + 1)) = true from rfl]
            go_wp2_with fail
            refine hnum2.mono ?_
            rintro e w7 ⟨rfl, hB7⟩
            have HB47 := Lib.hid (HB46.out.trans (hB7.mono HB46.out.size))
            have HO7 := Lib.hid (HO6.out.below hB7 (Nat.le_refl _))
            have hnum3 := num_any' k w7 (by omega) (HT4.out.below HB47.out)
            clear hnum2 hB7 hc6 HB46 HO6
            generalize dig h = dh at *
            go_wp2_with fail
            refine hnum3.mono ?_
            rintro e w8 ⟨rfl, hB8⟩
            have HB48 := Lib.hid (HB47.out.trans (hB8.mono HB47.out.size))
            have HO8 := Lib.hid (HO7.out.below hB8 (Nat.le_refl _))
            obtain ⟨v9, w9, hrun, hO9, _, hB9⟩ := append_ow_one LTat (keyK k) HO8.out (by have := HWl.out; omega) HB48.out.size
            have HO9 := Lib.hid hO9
            have HB9 := Lib.hid (HB48.out.trans (hB9 w4.heap.size HB48.out.size fun j hj => (HO8.out.block j hj).1))
            have hrun' : ∀ ty, (Builtin.append_ #[55, 55] ty #[u11, .slice (some ⟨w8.heap.size, 0, none⟩) 1 1]).run Tryd.prog (w8.alloc (.cells #[.string ⟨([107] ++ dig k).toArray⟩] 9)) = .ok v9 w9 := hrun
            clear hnum3 hB8 hrun hO9 hB9 HB47 HO7 HB48 HO8
            generalize dig k = dk at *
            go_wp2_with (first | (at_builtin; refine Lib.wpList_append_run _ rfl _ _ _ _ rfl _ _ rfl rfl _ _ (hrun' _) ?_) | go_in)
            go_roundg (5 - (k + 1))
            case measure => omega
            case rel => exact ⟨k + 1, by go_num, by omega, Nat.le_refl _, Lib.hid (by rw [HW1.out]; exact HO9.out), HB9⟩
        · have hkI : ¬ (k : Int) < 5 := by omega
          obtain rfl : k = 5 := by omega
          have hS5 := HS4.out.below HB.out
          have hky := hS5.keys
          rw [HR4.out] at hky
          have HS5 := Lib.hid hS5
          obtain ⟨A5, c5, rfl, hR5, -⟩ := HO.out.rw
          have HR5 := Lib.hid hR5
          have hwl := wantK_length l l.length 5
          clear hS5 hR5 HO
          go_wp2_with fail
          refine hky.mono ?_
          rintro e w6 ⟨v6, rfl, hO6, hB6⟩
          have hO6 : Ow LT w6 wr.heap.size v6 (wantK l l.length 5) := hO6
          obtain ⟨A6, c6, rfl, hR6, -⟩ := hO6.rw
          have hst := sameTexts_yes A6 A5 c6 c5 w6.heap.size (wantK l l.length 5) w6 hR6 ((HR5.out.below hB6).more hB6.size) (Nat.le_refl _) (by omega)
          have HB6 := Lib.hid (HS5.out.un.trans (hB6.mono HS5.out.un.size))
          clear hky hO6 hR6 hB6
          generalize wantK l l.length 5 = wk at *
          go_wp2_with fail
          refine hst.mono ?_
          rintro e w7 ⟨rfl, hB7⟩
          have HB7 := Lib.hid (HB6.out.trans (hB7.mono HB6.out.size))
          clear hst hB7
          go_wp2
          go_ret
          exact ⟨rfl, HB7.out⟩
end Go.Proofs.YtmpklljiddggpaaDoor
