/-
  The walk of the statements' put: records, rising, with one change. Conditions: each theorem's own premises.
-/
import Derived.Test.YtmpklljiddggpaaGreatDoorQJpA
namespace Go.Proofs.YtmpklljiddggpaaGreatDoor
open Go.Shelf Go.RowKit Go.Lib Go.Sort
attribute [local go_sem] Oper.semAt_some

/-- Records of the statements: a change's key and value. -/
def LC : Lie Chg := ⟨78, 2, fun c => [txt c.key, txt c.val], fun _ => rfl, fun _ u hu => by
  rcases List.mem_cons.1 hu with rfl | hu
  · rfl
  · obtain rfl := List.mem_singleton.1 hu
    rfl⟩
theorem LCinfo : (Tryz.prog.info? 78).map (fun i => (i.zero, i.size, i.bytes)) = some (some (.agg #[.string ⟨#[]⟩, .string ⟨#[]⟩]), 2, 32) := by kernel_rfl
theorem LCat : LieAt Tryz.prog 30 LC := by
  obtain ⟨i0, hi, hz0, hz1, hz2⟩ := info_parts LCinfo
  exact ⟨Tryz.underlying30, ⟨i0, _, hi, hz0, hz1, by omega, rfl⟩, by show 0 < 2; omega⟩

/-- One change, at its place. -/
theorem put_split {c : Chg} : ∀ {l : List Chg} (_ : Rises l) (k : Nat) (_ : k ≤ l.length) (_ : ∀ i (hi : i < l.length), i < k → l[i].key < c.key) (_ : ∀ h : k < l.length, ¬ l[k].key < c.key),
    putR l c = l.take k ++ (if c.gone then [] else [c]) ++ l.drop (if ∃ h : k < l.length, l[k].key = c.key then k + 1 else k)
  | [], _, k, hk, _, _ => by
    obtain rfl : k = 0 := by simpa using hk
    unfold putR
    cases c.gone <;> simp [insC]
  | x :: r, hr, 0, _, _, h2 => by
    have ht := List.pairwise_cons.1 hr
    have h0 : ¬ x.key < c.key := h2 (by simp)
    have hf : ∀ (hx : c.key < x.key ∨ c.key = x.key), r.filter (fun y => !decide (y.key = c.key)) = r := fun hx => by
      refine List.filter_eq_self.2 fun y hy => ?_
      have := ht.1 y hy
      simp only [Bool.not_eq_true', decide_eq_false_iff_not]
      rintro e
      rw [e] at this
      rcases hx with hx | hx
      · exact lt_asy hx this
      · rw [hx] at this; exact lt_irr _ this
    unfold putR
    by_cases e : x.key = c.key
    · have e2 : (∃ h : 0 < (x :: r).length, (x :: r)[0].key = c.key) := ⟨by simp, e⟩
      rw [if_pos e2]
      cases c.gone
      · simp only [Bool.false_eq_true, if_false, insC]
        rw [if_neg (by rw [e]; exact lt_irr _), if_pos e.symm]
        rfl
      · simp only [if_true]
        rw [List.filter_cons, if_neg (by simp [e]), hf (.inr e.symm)]
        rfl
    · have e2 : ¬ (∃ h : 0 < (x :: r).length, (x :: r)[0].key = c.key) := fun ⟨_, h⟩ => e h
      have hlt : c.key < x.key := by
        by_cases h : c.key < x.key
        · exact h
        · exact absurd (lt_tot h0 h) e
      rw [if_neg e2]
      cases c.gone
      · simp only [Bool.false_eq_true, if_false, insC]
        rw [if_pos hlt]
        rfl
      · simp only [if_true]
        rw [List.filter_cons, if_pos (by simp [e]), hf (.inl hlt)]
        rfl
  | x :: r, hr, k + 1, hk, h1, h2 => by
    have ht := List.pairwise_cons.1 hr
    have h0 : x.key < c.key := h1 0 (by simp) (by omega)
    have ih := put_split (c := c) ht.2 k (by simpa using hk) (fun i hi hik => by have := h1 (i + 1) (by simpa using hi) (by omega); simpa using this) (fun h => by have := h2 (by simpa using h); simpa using this)
    have e3 : (∃ h : k + 1 < (x :: r).length, (x :: r)[k + 1].key = c.key) ↔ (∃ h : k < r.length, r[k].key = c.key) := ⟨fun ⟨h, e⟩ => ⟨by simpa using h, by simpa using e⟩, fun ⟨h, e⟩ => ⟨by simpa using h, by simpa using e⟩⟩
    have e4 : (x :: r).drop (if ∃ h : k + 1 < (x :: r).length, (x :: r)[k + 1].key = c.key then k + 1 + 1 else k + 1) = r.drop (if ∃ h : k < r.length, r[k].key = c.key then k + 1 else k) := by
      by_cases e : ∃ h : k < r.length, r[k].key = c.key
      · rw [if_pos e, if_pos (e3.2 e)]; rfl
      · rw [if_neg e, if_neg (fun h => e (e3.1 h))]; rfl
    rw [e4, List.take_succ_cons, List.cons_append, List.cons_append, ← ih]
    unfold putR
    cases c.gone
    · simp only [Bool.false_eq_true, if_false, insC]
      rw [if_neg (lt_asy h0), if_neg (fun e => by rw [e] at h0; exact lt_irr _ h0)]
    · simp only [if_true]
      rw [List.filter_cons, if_pos]
      simp only [Bool.not_eq_true', decide_eq_false_iff_not]
      rintro e
      rw [e] at h0
      exact lt_irr _ h0

theorem lc_cuth (A : Option Addr) (n c k : Nat) (W : World) (h : k ≤ c) :
    (Instr.slice 30 (.slice A n c) none (some (.int .i64 (k : Int))) none).run Tryz.prog W = .ok (.slice A k c) W := by
  have e := run_slice_h (P := Tryz.prog) (w := W) (t := 30) (a := A) (len := n) (cap := c) (by kernel_rfl) .i64 (k : Int) (by omega) (by omega)
  obtain ⟨i0, hi, hz0, hz1, hz2⟩ := info_parts LCinfo
  have he : Tryz.prog.elem 30 = 78 := by kernel_rfl
  have e2 : (if c = 0 then A else A.map (·.add 0)) = A := by
    split
    · rfl
    · cases A <;> simp [add_zero]
  rw [e, he]
  simp [sizeOf, typeInfo, hi, hz1, sliced, e2]
theorem lc_cutl (A : Option Addr) (n c k : Nat) (W : World) (h : k ≤ n) :
    (Instr.slice 30 (.slice A n c) (some (.int .i64 (k : Int))) none none).run Tryz.prog W = .ok (.slice (if c = k then A else A.map (·.add (k * 2))) (n - k) (c - k)) W := by
  have e := run_slice_l (P := Tryz.prog) (w := W) (t := 30) (a := A) (len := n) (cap := c) (by kernel_rfl) .i64 (k : Int) (by omega) (by omega)
  obtain ⟨i0, hi, hz0, hz1, hz2⟩ := info_parts LCinfo
  have he : Tryz.prog.elem 30 = 78 := by kernel_rfl
  rw [e, he]
  simp [sizeOf, typeInfo, hi, hz1, sliced]
theorem Rw.lcdrop {w : World} {B : Nat} {A : Option Addr} {l : List Chg} (h : Rw LC w B A l) (c k : Nat) (hc : l.length ≤ c) : Rw LC w B (if c = k then A else A.map (·.add (k * 2))) (l.drop k) := by
  by_cases e : c = k
  · rw [List.drop_eq_nil_of_le (by omega)]
    exact Rw.nil
  · rw [if_neg e]
    refine ⟨fun hn => ?_⟩
    obtain ⟨ad, rfl, hb, hx⟩ := h.here (by rintro rfl; simp at hn)
    refine ⟨ad.add (k * 2), rfl, by rw [add_block]; exact hb, fun j u hu => ?_⟩
    have hk : k < l.length := by
      rcases Nat.lt_or_ge k l.length with h | h
      · exact h
      · exact absurd (List.drop_eq_nil_of_le h) hn
    rw [add_add]
    refine hx _ _ ?_
    have e1 : LC.cells l = LC.cells (l.take k) ++ LC.cells (l.drop k) := by rw [← LC.cells_append, List.take_append_drop]
    have e2 : (LC.cells (l.take k)).length = k * 2 := by rw [LC.cells_length, List.length_take, Nat.min_eq_left (by omega)]; rfl
    rw [e1, List.getElem?_append_right (by omega), e2, show k * 2 + j - k * 2 = j by omega]
    exact hu

def zeroR (n : Nat) : Array Value := madeCells #[.string ⟨#[]⟩, .string ⟨#[]⟩] (n * 2)
theorem make_recs (n : Nat) (w : World) (h : n ≤ 2000000) : (Instr.makeSlice 30 (.int .i64 0) (.int .i64 (n : Int))).run Tryz.prog w = .ok (.slice (some ⟨w.heap.size, 0, none⟩) 0 n) (w.alloc (.cells (zeroR n) 78)) := by
  obtain ⟨i, hi, hz, hs, hb⟩ := info_parts LCinfo
  have := run_make (P := Tryz.prog) w 30 78 i _ Tryz.underlying30 hi hz .i64 .i64 0 (n : Int) (by omega) (by omega) (by rw [hb]; omega) (by omega)
  rw [this, hs]
  rfl
theorem ow_recs (n : Nat) (w : World) (h : n ≤ 2000000) : Ow LC (w.alloc (.cells (zeroR n) 78)) w.heap.size (.slice (some ⟨w.heap.size, 0, none⟩) 0 n) [] :=
  Ow.of (L := LC) (l := []) (Nat.le_refl _) (heap_alloc_new w _) (by simp) (by simp [maxLen]; omega) (by unfold zeroR; rw [size_madeCells]; rfl) (by simp [Lie.cells])
end Go.Proofs.YtmpklljiddggpaaGreatDoor

/-
  The walk of the statements' put. Conditions: each theorem's own premises.
-/
namespace Go.Proofs.YtmpklljiddggpaaGreatDoor
open Go.Shelf Go.RowKit Go.Lib Go.Sort
attribute [local go_sem] Oper.semAt_some

set_option maxRecDepth 100000 in
set_option maxHeartbeats 4000000 in
set_option linter.unusedSimpArgs false in
theorem putrec_any (A : Option Addr) (cp : Nat) (l : List Chg) (c : Chg) (w : World) (hR : Rw LC w w.heap.size A l) (hr : Rises l) (hl : l.length ≤ 1000000) (hz : A = none → cp = 0) (hcp : l.length ≤ cp) :
    Calls Tryz.prog 23 #[.slice A l.length cp, .agg #[.string ⟨c.key.toArray⟩, .string ⟨c.val.toArray⟩, .bool c.gone]] w fun e w' => ∃ v, e = .returned v ∧ Ow LC w' w.heap.size v (putR l c) ∧ Below w.heap.size w w' := by
  have h1B : Below w.heap.size w (w.alloc (.cells #[.string ⟨c.key.toArray⟩, .string ⟨c.val.toArray⟩, .bool c.gone] 55)) := (Below.refl _ w).alloc (Nat.le_refl _) _
  have h1b : Blk (w.alloc (.cells #[.string ⟨c.key.toArray⟩, .string ⟨c.val.toArray⟩, .bool c.gone] 55)) w.heap.size 55 #[.string ⟨c.key.toArray⟩, .string ⟨c.val.toArray⟩, .bool c.gone] := heap_alloc_new w _
  have HR := Lib.hid hR
  have HRi := Lib.hid hr
  clear hR hr
  go_enter Tryz.func23, Tryz.ntmps23
  go_upto_region 1 with (fail)
  generalize (w.alloc (.cells #[.string ⟨c.key.toArray⟩, .string ⟨c.val.toArray⟩, .bool c.gone] 55)) = W at *
  have HW := Lib.hid h1B
  have HC := Lib.hid h1b
  clear h1B h1b
  go_wp2
  go_loopg [5] l.length (fun kx s5 wr => ∃ (k : Nat), s5 = .int .i64 k ∧ k ≤ l.length ∧ l.length - k ≤ kx ∧ Hid (∀ i (hi : i < l.length), i < k → l[i].key < c.key) ∧ Hid (Below W.heap.size W wr))
  case atStart => exact ⟨0, rfl, by omega, by omega, Lib.hid (fun _ _ h => by omega), Lib.hid (Below.refl _ _)⟩
  case round =>
    obtain ⟨k, rfl, hkm, hkx, HK, HB⟩ := hrel
    have b0 : wr.cell? ⟨w.heap.size, 0, none⟩ = some (.string ⟨c.key.toArray⟩) := (HC.out.below HB.out HC.out.lt).cell 0
    have b1 : wr.cell? ⟨w.heap.size, 1, none⟩ = some (.string ⟨c.val.toArray⟩) := (HC.out.below HB.out HC.out.lt).cell 1
    have b2 : wr.cell? ⟨w.heap.size, 2, none⟩ = some (.bool c.gone) := (HC.out.below HB.out HC.out.lt).cell 2
    have HB0 := Lib.hid (HW.out.trans (HB.out.mono HW.out.size))
    have HRr := Lib.hid (HR.out.below HB0.out)
    have hmk : ∀ W', (Instr.makeSlice 30 (.int .i64 0) (.int .i64 (IntKind.i64.wrap ((l.length : Int) + 1)))).run Tryz.prog W' = .ok (.slice (some ⟨W'.heap.size, 0, none⟩) 0 (l.length + 1)) (W'.alloc (.cells (zeroR (l.length + 1)) 78)) := fun W' => by
      have q1 : IntKind.i64.wrap ((l.length : Int) + 1) = ((l.length + 1 : Nat) : Int) := by rw [IntKind.wrap_i64]; omega
      rw [q1]
      exact make_recs (l.length + 1) W' (by omega)
    have HMk := Lib.hid hmk
    clear hmk
    by_cases hlt : k < l.length ∧ ∀ h : k < l.length, l[k].key < c.key
    · obtain ⟨hlt, hv⟩ := hlt
      have hv := hv hlt
      have hltI : (k : Int) < l.length := by omega
      obtain ⟨ad, rfl, hb, p0⟩ := HRr.out.pick hlt
      have q0 : wr.cell? (ad.add (k * 2)) = some (.string ⟨l[k].key.toArray⟩) := p0 0 _ rfl
      have hvB : Op.bytesLess l[k].key c.key = true := by rw [bytesLess_eq]; exact decide_eq_true hv
      have HK2 : Hid (∀ i (hi : i < l.length), i < k + 1 → l[i].key < c.key) := Lib.hid fun i hi h => by
        rcases Nat.lt_or_ge i k with h2 | h2
        · exact HK.out i hi h2
        · obtain rfl : i = k := by omega
          exact hv
      generalize l[k].key = x at q0 hvB
      go_wp2_with fail
      go_quiet (fail)
      have HB4 : Hid (Below W.heap.size W (wr.drewN nq)) := Lib.hid (HB.out.trans ((bl_drew wr nq).mono HB.out.size))
      go_wp2
      go_roundg (l.length - (k + 1))
      case measure => omega
      case rel => exact ⟨k + 1, by go_num, by omega, Nat.le_refl _, HK2, HB4⟩
    · have HSp := Lib.hid (put_split (c := c) HRi.out k hkm HK.out (fun h hv => hlt ⟨h, fun _ => hv⟩))
      rcases Nat.lt_or_ge k l.length with hk1 | hk1
      · have hltI : (k : Int) < l.length := by omega
        obtain ⟨ad, rfl, hb, p0⟩ := HRr.out.pick hk1
        have q0 : wr.cell? (ad.add (k * 2)) = some (.string ⟨l[k].key.toArray⟩) := p0 0 _ rfl
        have hv : ¬ l[k].key < c.key := fun hv => hlt ⟨hk1, fun _ => hv⟩
        have hvB : Op.bytesLess l[k].key c.key = false := by rw [bytesLess_eq]; exact decide_eq_false hv
        have HX := Lib.hid (show (∃ h : k < l.length, l[k].key = c.key) ↔ l[k].key = c.key from ⟨fun ⟨_, h⟩ => h, fun h => ⟨hk1, h⟩⟩)
        clear hv p0 hlt
        generalize l[k].key = x at q0 hvB HX
        go_wp2_with fail
        go_quiet (fail)
        have c0 : (wr.drewN nq).cell? ⟨w.heap.size, 0, none⟩ = some (.string ⟨c.key.toArray⟩) := b0
        have c1 : (wr.drewN nq).cell? ⟨w.heap.size, 1, none⟩ = some (.string ⟨c.val.toArray⟩) := b1
        have c2 : (wr.drewN nq).cell? ⟨w.heap.size, 2, none⟩ = some (.bool c.gone) := b2
        have r0 : (wr.drewN nq).cell? (ad.add (k * 2)) = some (.string ⟨x.toArray⟩) := q0
        have HB2 : Hid (Below w.heap.size w (wr.drewN nq)) := Lib.hid (HB0.out.trans ((bl_drew wr nq).mono HB0.out.size))
        have hsz : w.heap.size < (wr.drewN nq).heap.size := Nat.lt_of_lt_of_le HC.out.lt HB.out.size
        clear b0 b1 b2 HB HB0 HRr HC HW q0
        generalize wr.drewN nq = W2 at *
        have HR2 := Lib.hid (HR.out.below HB2.out)
        go_upto_region 4 with (fail)
        obtain ⟨v4, w4, hrun4, hO4, hg4⟩ := append_ow LCat (n := k) (c := cp) (ow_recs (l.length + 1) W2.drew (by omega)) ((HR2.out.take k).keep (w' := W2.drew.alloc (.cells (zeroR (l.length + 1)) 78)) fun p hp => World.cell?_alloc_lt W2.drew _ _ (by show p.block < W2.heap.size; omega)) (by simp; omega) hz (by simp; omega) (by simp)
        rw [List.nil_append] at hO4
        have hcut := fun W' => lc_cuth (some ad) l.length cp k W' (by omega)
        have hmk := HMk.out
        have hb4 : Below W2.heap.size W2 w4 := ((bl_drew W2 1).alloc (Nat.le_refl _) _).grown hg4 (by simp) (fun j hj => by cases hj; exact Nat.le_refl _)
        have d0 := cell_below c0 hb4 (Nat.le_refl _)
        have d1 := cell_below c1 hb4 (Nat.le_refl _)
        have d2 := cell_below c2 hb4 (Nat.le_refl _)
        have t0 := cell_below r0 hb4 (Nat.le_refl _)
        have hO4' : Ow LC w4 W2.heap.size v4 (l.take k) := hO4
        have HO4 := Lib.hid (hO4'.mono (Nat.le_of_lt hsz))
        have HB4 := Lib.hid (HB2.out.trans (hb4.mono HB2.out.size))
        have hs4 : w.heap.size < w4.heap.size := Nat.lt_of_lt_of_le hsz hb4.size
        have hrun4' : ∀ ty, (Builtin.append_ #[30, 30] ty #[.slice (some ⟨W2.heap.size, 0, none⟩) 0 (l.length + 1), .slice (some ad) k cp]).run Tryz.prog (W2.drew.alloc (.cells (zeroR (l.length + 1)) 78)) = .ok v4 w4 := hrun4
        clear hrun4 hO4 hg4 hb4 c0 c1 c2 r0 HR2 HB2
        have hne4 : ∀ j, v4.ownBlock = some j → W2.heap.size ≤ j := fun j hj => (hO4'.block j hj).1
        have HNe := Lib.hid hne4
        clear hne4 hO4'
        go_region_held3 (fun _ => True) (trivial)
          (refine step_append_run rfl _ _ 30 30 rfl _ _ rfl rfl _ _ (hrun4' _) ?_)
        clear hrun4' hcut hmk HMk
        by_cases hgo : c.gone = true
        · rw [hgo] at d2
          go_upto_region 7 with (fail)
          by_cases hx : x = c.key
          · have HX1 := Lib.hid (HX.out.2 hx)
            clear HX
            subst hx
            go_quiet (fail)
            have HO7 := Lib.hid (Ow.below (w' := w4.drewN nq) HO4.out (bl_drew w4 nq) (Nat.le_refl _))
            have HB7 : Hid (Below w.heap.size w (w4.drewN nq)) := Lib.hid (HB4.out.trans ((bl_drew w4 nq).mono HB4.out.size))
            generalize w4.drewN nq = W7 at *
            obtain ⟨A9, hA9⟩ : ∃ A9, A9 = (if cp = k + 1 then (some ad) else ((some ad) : Option Addr).map (·.add ((k + 1) * 2))) := ⟨_, rfl⟩
            obtain ⟨n9, hn9⟩ : ∃ n9, n9 = l.length - (k + 1) := ⟨_, rfl⟩
            have hcut : ∀ W', (Instr.slice 30 (.slice (some ad) l.length cp) (some (.int .i64 ((k : Int) + 1))) none none).run Tryz.prog W' = .ok (.slice A9 n9 (cp - (k + 1))) W' := fun W' => by rw [hA9, hn9]; exact lc_cutl (some ad) l.length cp (k + 1) W' (by omega)
            obtain ⟨v9, w9, hrun9, hO9, hg9⟩ := append_ow LCat (n := n9) (c := cp - (k + 1)) (A := A9) HO7.out (by rw [hA9]; exact (HR.out.below HB7.out).lcdrop cp (k + 1) hcp) (by rw [hn9, List.length_drop]) (fun e => by
              rw [hA9] at e
              by_cases e2 : cp = k + 1
              · omega
              · rw [if_neg e2] at e
                cases e) (by simp; omega) HB7.out.size
            have HO9 := Lib.hid hO9
            have HB9 := Lib.hid (HB7.out.grown hg9 HB7.out.size (fun j hj => (HO7.out.block j hj).1))
            clear hA9 hn9 hO9 hg9 HO7 HB7 HO4 HB4 HR HRi HK
            go_wp2_with (first | (at_builtin; refine Lib.wpList_append_run _ rfl _ _ _ _ rfl _ _ rfl rfl _ _ (hrun9 _) ?_) | go_in)
            go_ret
            refine ⟨_, rfl, ?_, HB9.out⟩
            have h9 := HO9.out
            have e9 := HSp.out
            simp only [hgo, if_true, Bool.false_eq_true, if_false] at e9
            rw [if_pos HX1.out] at e9
            rw [e9]
            simpa using h9
          · have HX1 := Lib.hid (fun h => hx (HX.out.1 h))
            clear HX
            have hxB : (x == c.key) = false := by rw [beq_eq_false_iff_ne]; exact hx
            go_quiet (fail)
            have HO7 := Lib.hid (Ow.below (w' := w4.drewN nq) HO4.out (bl_drew w4 nq) (Nat.le_refl _))
            have HB7 : Hid (Below w.heap.size w (w4.drewN nq)) := Lib.hid (HB4.out.trans ((bl_drew w4 nq).mono HB4.out.size))
            generalize w4.drewN nq = W7 at *
            obtain ⟨A9, hA9⟩ : ∃ A9, A9 = (if cp = k then (some ad) else ((some ad) : Option Addr).map (·.add ((k) * 2))) := ⟨_, rfl⟩
            obtain ⟨n9, hn9⟩ : ∃ n9, n9 = l.length - (k) := ⟨_, rfl⟩
            have hcut : ∀ W', (Instr.slice 30 (.slice (some ad) l.length cp) (some (.int .i64 (k : Int))) none none).run Tryz.prog W' = .ok (.slice A9 n9 (cp - (k))) W' := fun W' => by rw [hA9, hn9]; exact lc_cutl (some ad) l.length cp (k) W' (by omega)
            obtain ⟨v9, w9, hrun9, hO9, hg9⟩ := append_ow LCat (n := n9) (c := cp - (k)) (A := A9) HO7.out (by rw [hA9]; exact (HR.out.below HB7.out).lcdrop cp (k) hcp) (by rw [hn9, List.length_drop]) (fun e => by
              rw [hA9] at e
              by_cases e2 : cp = k
              · omega
              · rw [if_neg e2] at e
                cases e) (by simp; omega) HB7.out.size
            have HO9 := Lib.hid hO9
            have HB9 := Lib.hid (HB7.out.grown hg9 HB7.out.size (fun j hj => (HO7.out.block j hj).1))
            clear hA9 hn9 hO9 hg9 HO7 HB7 HO4 HB4 HR HRi HK
            go_wp2_with (first | (at_builtin; refine Lib.wpList_append_run _ rfl _ _ _ _ rfl _ _ rfl rfl _ _ (hrun9 _) ?_) | go_in)
            go_ret
            refine ⟨_, rfl, ?_, HB9.out⟩
            have h9 := HO9.out
            have e9 := HSp.out
            simp only [hgo, if_true, Bool.false_eq_true, if_false] at e9
            rw [if_neg HX1.out] at e9
            rw [e9]
            simpa using h9
        · have hgo : c.gone = false := by simpa using hgo
          rw [hgo] at d2
          obtain ⟨v6, w6, hrun6, hO6, _, hb6⟩ := append_ow_one LCat c HO4.out (by simp; omega) (by omega)
          have hrun6' : ∀ ty, (Builtin.append_ #[30, 30] ty #[v4, .slice (some ⟨w4.heap.size, 0, none⟩) 1 1]).run Tryz.prog (w4.alloc (.cells #[.string ⟨c.key.toArray⟩, .string ⟨c.val.toArray⟩] 78)) = .ok v6 w6 := hrun6
          have hb6 := hb6 (w.heap.size + 1) (by omega) (fun j hj => by have := HNe.out j hj; omega)
          have f0 := (hb6.cell (p := ⟨w.heap.size, 0, none⟩) (by simp)).trans d0
          have f1 := (hb6.cell (p := ad.add (k * 2)) (by rw [add_block]; omega)).trans t0
          have HO6 := Lib.hid hO6
          have HB6 := Lib.hid (HB4.out.trans (hb6.mono (by omega)))
          go_wp2_with (first | (at_builtin; refine Lib.wpList_append_run _ rfl _ _ _ _ rfl _ _ rfl rfl _ _ (hrun6' _) ?_) | go_in)
          clear hrun6 hrun6' hO6 hb6 d0 d1 d2 t0 HO4 HB4
          by_cases hx : x = c.key
          · have HX1 := Lib.hid (HX.out.2 hx)
            clear HX
            subst hx
            go_quiet (fail)
            have HO7 := Lib.hid (Ow.below (w' := w6.drewN nq) HO6.out (bl_drew w6 nq) (Nat.le_refl _))
            have HB7 : Hid (Below w.heap.size w (w6.drewN nq)) := Lib.hid (HB6.out.trans ((bl_drew w6 nq).mono HB6.out.size))
            generalize w6.drewN nq = W7 at *
            obtain ⟨A9, hA9⟩ : ∃ A9, A9 = (if cp = k + 1 then (some ad) else ((some ad) : Option Addr).map (·.add ((k + 1) * 2))) := ⟨_, rfl⟩
            obtain ⟨n9, hn9⟩ : ∃ n9, n9 = l.length - (k + 1) := ⟨_, rfl⟩
            have hcut : ∀ W', (Instr.slice 30 (.slice (some ad) l.length cp) (some (.int .i64 ((k : Int) + 1))) none none).run Tryz.prog W' = .ok (.slice A9 n9 (cp - (k + 1))) W' := fun W' => by rw [hA9, hn9]; exact lc_cutl (some ad) l.length cp (k + 1) W' (by omega)
            obtain ⟨v9, w9, hrun9, hO9, hg9⟩ := append_ow LCat (n := n9) (c := cp - (k + 1)) (A := A9) HO7.out (by rw [hA9]; exact (HR.out.below HB7.out).lcdrop cp (k + 1) hcp) (by rw [hn9, List.length_drop]) (fun e => by
              rw [hA9] at e
              by_cases e2 : cp = k + 1
              · omega
              · rw [if_neg e2] at e
                cases e) (by simp; omega) HB7.out.size
            have HO9 := Lib.hid hO9
            have HB9 := Lib.hid (HB7.out.grown hg9 HB7.out.size (fun j hj => (HO7.out.block j hj).1))
            clear hA9 hn9 hO9 hg9 HO7 HB7 HO6 HB6 HR HRi HK
            go_wp2_with (first | (at_builtin; refine Lib.wpList_append_run _ rfl _ _ _ _ rfl _ _ rfl rfl _ _ (hrun9 _) ?_) | go_in)
            go_ret
            refine ⟨_, rfl, ?_, HB9.out⟩
            have h9 := HO9.out
            have e9 := HSp.out
            simp only [hgo, if_true, Bool.false_eq_true, if_false] at e9
            rw [if_pos HX1.out] at e9
            rw [e9]
            simpa using h9
          · have HX1 := Lib.hid (fun h => hx (HX.out.1 h))
            clear HX
            have hxB : (x == c.key) = false := by rw [beq_eq_false_iff_ne]; exact hx
            go_quiet (fail)
            have HO7 := Lib.hid (Ow.below (w' := w6.drewN nq) HO6.out (bl_drew w6 nq) (Nat.le_refl _))
            have HB7 : Hid (Below w.heap.size w (w6.drewN nq)) := Lib.hid (HB6.out.trans ((bl_drew w6 nq).mono HB6.out.size))
            generalize w6.drewN nq = W7 at *
            obtain ⟨A9, hA9⟩ : ∃ A9, A9 = (if cp = k then (some ad) else ((some ad) : Option Addr).map (·.add ((k) * 2))) := ⟨_, rfl⟩
            obtain ⟨n9, hn9⟩ : ∃ n9, n9 = l.length - (k) := ⟨_, rfl⟩
            have hcut : ∀ W', (Instr.slice 30 (.slice (some ad) l.length cp) (some (.int .i64 (k : Int))) none none).run Tryz.prog W' = .ok (.slice A9 n9 (cp - (k))) W' := fun W' => by rw [hA9, hn9]; exact lc_cutl (some ad) l.length cp (k) W' (by omega)
            obtain ⟨v9, w9, hrun9, hO9, hg9⟩ := append_ow LCat (n := n9) (c := cp - (k)) (A := A9) HO7.out (by rw [hA9]; exact (HR.out.below HB7.out).lcdrop cp (k) hcp) (by rw [hn9, List.length_drop]) (fun e => by
              rw [hA9] at e
              by_cases e2 : cp = k
              · omega
              · rw [if_neg e2] at e
                cases e) (by simp; omega) HB7.out.size
            have HO9 := Lib.hid hO9
            have HB9 := Lib.hid (HB7.out.grown hg9 HB7.out.size (fun j hj => (HO7.out.block j hj).1))
            clear hA9 hn9 hO9 hg9 HO7 HB7 HO6 HB6 HR HRi HK
            go_wp2_with (first | (at_builtin; refine Lib.wpList_append_run _ rfl _ _ _ _ rfl _ _ rfl rfl _ _ (hrun9 _) ?_) | go_in)
            go_ret
            refine ⟨_, rfl, ?_, HB9.out⟩
            have h9 := HO9.out
            have e9 := HSp.out
            simp only [hgo, if_true, Bool.false_eq_true, if_false] at e9
            rw [if_neg HX1.out] at e9
            rw [e9]
            simpa using h9
      · have hltI : decide ((k : Int) < l.length) = false := decide_eq_false (by omega)
        have hltN : ¬ k < l.length := by omega
        clear hlt hk1
        go_wp2_with fail
        go_quiet (fail)
        have c0 : (wr.drewN nq).cell? ⟨w.heap.size, 0, none⟩ = some (.string ⟨c.key.toArray⟩) := b0
        have c1 : (wr.drewN nq).cell? ⟨w.heap.size, 1, none⟩ = some (.string ⟨c.val.toArray⟩) := b1
        have c2 : (wr.drewN nq).cell? ⟨w.heap.size, 2, none⟩ = some (.bool c.gone) := b2
        have HB2 : Hid (Below w.heap.size w (wr.drewN nq)) := Lib.hid (HB0.out.trans ((bl_drew wr nq).mono HB0.out.size))
        have hsz : w.heap.size < (wr.drewN nq).heap.size := Nat.lt_of_lt_of_le HC.out.lt HB.out.size
        clear b0 b1 b2 HB HB0 HRr HC HW 
        generalize wr.drewN nq = W2 at *
        have HR2 := Lib.hid (HR.out.below HB2.out)
        go_upto_region 4 with (fail)
        obtain ⟨v4, w4, hrun4, hO4, hg4⟩ := append_ow LCat (n := k) (c := cp) (ow_recs (l.length + 1) W2.drew (by omega)) ((HR2.out.take k).keep (w' := W2.drew.alloc (.cells (zeroR (l.length + 1)) 78)) fun p hp => World.cell?_alloc_lt W2.drew _ _ (by show p.block < W2.heap.size; omega)) (by simp; omega) hz (by simp; omega) (by simp)
        rw [List.nil_append] at hO4
        have hcut := fun W' => lc_cuth A l.length cp k W' (by omega)
        have hmk := HMk.out
        have hb4 : Below W2.heap.size W2 w4 := ((bl_drew W2 1).alloc (Nat.le_refl _) _).grown hg4 (by simp) (fun j hj => by cases hj; exact Nat.le_refl _)
        have d0 := cell_below c0 hb4 (Nat.le_refl _)
        have d1 := cell_below c1 hb4 (Nat.le_refl _)
        have d2 := cell_below c2 hb4 (Nat.le_refl _)
        have hO4' : Ow LC w4 W2.heap.size v4 (l.take k) := hO4
        have HO4 := Lib.hid (hO4'.mono (Nat.le_of_lt hsz))
        have HB4 := Lib.hid (HB2.out.trans (hb4.mono HB2.out.size))
        have hs4 : w.heap.size < w4.heap.size := Nat.lt_of_lt_of_le hsz hb4.size
        have hrun4' : ∀ ty, (Builtin.append_ #[30, 30] ty #[.slice (some ⟨W2.heap.size, 0, none⟩) 0 (l.length + 1), .slice A k cp]).run Tryz.prog (W2.drew.alloc (.cells (zeroR (l.length + 1)) 78)) = .ok v4 w4 := hrun4
        clear hrun4 hO4 hg4 hb4 c0 c1 c2  HR2 HB2
        have hne4 : ∀ j, v4.ownBlock = some j → W2.heap.size ≤ j := fun j hj => (hO4'.block j hj).1
        have HNe := Lib.hid hne4
        clear hne4 hO4'
        go_region_held3 (fun _ => True) (trivial)
          (refine step_append_run rfl _ _ 30 30 rfl _ _ rfl rfl _ _ (hrun4' _) ?_)
        clear hrun4' hcut hmk HMk
        by_cases hgo : c.gone = true
        · rw [hgo] at d2
          go_upto_region 7 with (fail)
          go_quiet (fail)
          have HO7 := Lib.hid (Ow.below (w' := w4.drewN nq) HO4.out (bl_drew w4 nq) (Nat.le_refl _))
          have HB7 : Hid (Below w.heap.size w (w4.drewN nq)) := Lib.hid (HB4.out.trans ((bl_drew w4 nq).mono HB4.out.size))
          generalize w4.drewN nq = W7 at *
          obtain ⟨A9, hA9⟩ : ∃ A9, A9 = (if cp = k then A else (A : Option Addr).map (·.add ((k) * 2))) := ⟨_, rfl⟩
          obtain ⟨n9, hn9⟩ : ∃ n9, n9 = l.length - (k) := ⟨_, rfl⟩
          have hcut : ∀ W', (Instr.slice 30 (.slice A l.length cp) (some (.int .i64 (k : Int))) none none).run Tryz.prog W' = .ok (.slice A9 n9 (cp - (k))) W' := fun W' => by rw [hA9, hn9]; exact lc_cutl A l.length cp (k) W' (by omega)
          obtain ⟨v9, w9, hrun9, hO9, hg9⟩ := append_ow LCat (n := n9) (c := cp - (k)) (A := A9) HO7.out (by rw [hA9]; exact (HR.out.below HB7.out).lcdrop cp (k) hcp) (by rw [hn9, List.length_drop]) (fun e => by
            rw [hA9] at e
            by_cases e2 : cp = k
            · omega
            · rw [if_neg e2] at e
              have := hz (Option.map_eq_none_iff.1 e); omega) (by simp; omega) HB7.out.size
          have HO9 := Lib.hid hO9
          have HB9 := Lib.hid (HB7.out.grown hg9 HB7.out.size (fun j hj => (HO7.out.block j hj).1))
          clear hA9 hn9 hO9 hg9 HO7 HB7 HO4 HB4 HR HRi HK
          go_wp2_with (first | (at_builtin; refine Lib.wpList_append_run _ rfl _ _ _ _ rfl _ _ rfl rfl _ _ (hrun9 _) ?_) | go_in)
          go_ret
          refine ⟨_, rfl, ?_, HB9.out⟩
          have h9 := HO9.out
          have e9 := HSp.out
          simp only [hgo, if_true, Bool.false_eq_true, if_false] at e9
          rw [if_neg (fun ⟨h, _⟩ => hltN h)] at e9
          rw [e9]
          simpa using h9
        · have hgo : c.gone = false := by simpa using hgo
          rw [hgo] at d2
          obtain ⟨v6, w6, hrun6, hO6, _, hb6⟩ := append_ow_one LCat c HO4.out (by simp; omega) (by omega)
          have hrun6' : ∀ ty, (Builtin.append_ #[30, 30] ty #[v4, .slice (some ⟨w4.heap.size, 0, none⟩) 1 1]).run Tryz.prog (w4.alloc (.cells #[.string ⟨c.key.toArray⟩, .string ⟨c.val.toArray⟩] 78)) = .ok v6 w6 := hrun6
          have hb6 := hb6 (w.heap.size + 1) (by omega) (fun j hj => by have := HNe.out j hj; omega)
          have f0 := (hb6.cell (p := ⟨w.heap.size, 0, none⟩) (by simp)).trans d0
          have HO6 := Lib.hid hO6
          have HB6 := Lib.hid (HB4.out.trans (hb6.mono (by omega)))
          go_wp2_with (first | (at_builtin; refine Lib.wpList_append_run _ rfl _ _ _ _ rfl _ _ rfl rfl _ _ (hrun6' _) ?_) | go_in)
          clear hrun6 hrun6' hO6 hb6 d0 d1 d2  HO4 HB4
          go_quiet (fail)
          have HO7 := Lib.hid (Ow.below (w' := w6.drewN nq) HO6.out (bl_drew w6 nq) (Nat.le_refl _))
          have HB7 : Hid (Below w.heap.size w (w6.drewN nq)) := Lib.hid (HB6.out.trans ((bl_drew w6 nq).mono HB6.out.size))
          generalize w6.drewN nq = W7 at *
          obtain ⟨A9, hA9⟩ : ∃ A9, A9 = (if cp = k then A else (A : Option Addr).map (·.add ((k) * 2))) := ⟨_, rfl⟩
          obtain ⟨n9, hn9⟩ : ∃ n9, n9 = l.length - (k) := ⟨_, rfl⟩
          have hcut : ∀ W', (Instr.slice 30 (.slice A l.length cp) (some (.int .i64 (k : Int))) none none).run Tryz.prog W' = .ok (.slice A9 n9 (cp - (k))) W' := fun W' => by rw [hA9, hn9]; exact lc_cutl A l.length cp (k) W' (by omega)
          obtain ⟨v9, w9, hrun9, hO9, hg9⟩ := append_ow LCat (n := n9) (c := cp - (k)) (A := A9) HO7.out (by rw [hA9]; exact (HR.out.below HB7.out).lcdrop cp (k) hcp) (by rw [hn9, List.length_drop]) (fun e => by
            rw [hA9] at e
            by_cases e2 : cp = k
            · omega
            · rw [if_neg e2] at e
              have := hz (Option.map_eq_none_iff.1 e); omega) (by simp; omega) HB7.out.size
          have HO9 := Lib.hid hO9
          have HB9 := Lib.hid (HB7.out.grown hg9 HB7.out.size (fun j hj => (HO7.out.block j hj).1))
          clear hA9 hn9 hO9 hg9 HO7 HB7 HO6 HB6 HR HRi HK
          go_wp2_with (first | (at_builtin; refine Lib.wpList_append_run _ rfl _ _ _ _ rfl _ _ rfl rfl _ _ (hrun9 _) ?_) | go_in)
          go_ret
          refine ⟨_, rfl, ?_, HB9.out⟩
          have h9 := HO9.out
          have e9 := HSp.out
          simp only [hgo, if_true, Bool.false_eq_true, if_false] at e9
          rw [if_neg (fun ⟨h, _⟩ => hltN h)] at e9
          rw [e9]
          simpa using h9
end Go.Proofs.YtmpklljiddggpaaGreatDoor

/-
  The walk of the statements' after: records behind changes. Conditions: each theorem's own premises.
-/
namespace Go.Proofs.YtmpklljiddggpaaGreatDoor
open Go.Shelf Go.RowKit Go.Lib Go.Sort
attribute [local go_sem] Oper.semAt_some

/-- The records behind changes, as the statements say them. -/
def aftR (r cs : List Chg) : List Chg := if cs.any badKey then r else if cs.any badVal then r else if 256 < (aft (r ++ cs)).length then r else aft (r ++ cs)
/-- The error's number. -/
def aftN (r cs : List Chg) : Int := if cs.any badKey then 104 else if cs.any badVal then 103 else if 256 < (aft (r ++ cs)).length then 103 else 0
theorem aft_step {r : List Chg} (h : Recs r) (a : List Chg) (c : Chg) : putR (aft (r ++ a)) c = aft (r ++ (a ++ [c])) := by
  rw [← put_all h, ← put_all h, List.foldl_append]
  rfl
theorem aftR_recs {r : List Chg} (h : Recs r) (cs : List Chg) : Recs (aftR r cs) := by
  unfold aftR
  split
  · exact h
  · split
    · exact h
    · split
      · exact h
      · exact aft_recs _

set_option maxRecDepth 100000 in
set_option maxHeartbeats 4000000 in
theorem after_rec (base : Nat) (v : Value) (r : List Chg) (A : Option Addr) (c : Nat) (l : List Chg) (w : World) (hO : Ow LC w base v r) (hr : Recs r) (hC : Chs w w.heap.size A l) (hl : l.length ≤ 100000) (hrl : r.length ≤ 100000) (hb : base ≤ w.heap.size) :
    Calls Tryz.prog 10 #[v, .slice A l.length c] w fun e w' => ∃ v', e = .returned (.tuple #[v', .int .i64 (aftN r l)]) ∧ Ow LC w' base v' (aftR r l) ∧ Below w.heap.size w w' := by
  have HC := Lib.hid hC
  have HO := Lib.hid hO
  have HRc := Lib.hid hr
  clear hC hO hr
  go_enter Tryz.func10, Tryz.ntmps10
  go_wp2
  go_loopg [6] l.length (fun kx s6 wr => ∃ k : Nat, s6 = .int .i64 k ∧ k ≤ l.length ∧ l.length - k ≤ kx ∧ Hid (∀ j (hj : j < l.length), j < k → badKey l[j] = false) ∧ Hid (Below w.heap.size w wr))
  case atStart => exact ⟨0, rfl, by omega, by omega, Lib.hid (fun j hj h => by omega), Lib.hid (Below.refl _ _)⟩
  case round =>
    obtain ⟨k, rfl, hkn, hkx, HN, HB⟩ := hrel
    by_cases hlt : k < l.length
    · have hltI : (k : Int) < l.length := by omega
      obtain ⟨ad, rfl, hbl, p0, p1, p2⟩ := (HC.out.below HB.out).pick hlt
      have hbad : badKey l[k] = (decide (l[k].key.length < 1) || decide (40 < l[k].key.length)) := rfl
      have hany : badKey l[k] = true → l.any badKey = true := fun h => List.any_eq_true.2 ⟨l[k], List.getElem_mem hlt, h⟩
      generalize hx : l[k] = x at *
      have HX := Lib.hid hx
      have HAny := Lib.hid hany
      have HBad := Lib.hid hbad
      clear hx hany hbad
      by_cases h1 : x.key.length < 1
      · have h1I : (x.key.length : Int) < 1 := by omega
        have HR := Lib.hid (HAny.out (by rw [HBad.out, decide_eq_true h1]; rfl))
        clear h1
        go_wp2
        go_ret2
        exact ⟨v, by unfold aftN; rw [if_pos HR.out]; rfl, by unfold aftR; rw [if_pos HR.out]; exact HO.out.below HB.out (Nat.le_refl _), HB.out⟩
      · have h1I : ¬ (x.key.length : Int) < 1 := by omega
        by_cases h2 : 40 < x.key.length
        · have h2I : (40 : Int) < x.key.length := by omega
          have HR := Lib.hid (HAny.out (by rw [HBad.out, decide_eq_true h2]; simp))
          clear h1 h2
          go_wp2
          go_ret2
          exact ⟨v, by unfold aftN; rw [if_pos HR.out]; rfl, by unfold aftR; rw [if_pos HR.out]; exact HO.out.below HB.out (Nat.le_refl _), HB.out⟩
        · have h2I : ¬ (40 : Int) < x.key.length := by omega
          have HK : Hid (badKey x = false) := Lib.hid (by rw [HBad.out, decide_eq_false h1, decide_eq_false h2]; rfl)
          clear h1 h2
          go_wp2
          go_roundg (l.length - (k + 1))
          case measure => omega
          case rel => exact ⟨k + 1, by go_num, by omega, Nat.le_refl _, Lib.hid (fun j hj h => by
            rcases Nat.lt_or_ge j k with h3 | h3
            · exact HN.out j hj h3
            · obtain rfl : j = k := by omega
              rw [HX.out]; exact HK.out), HB⟩
    · have hltI : ¬ (k : Int) < l.length := by omega
      have HK : Hid (l.any badKey = false) := Lib.hid (by
        rw [List.any_eq_false]
        intro x hx
        obtain ⟨j, hj, rfl⟩ := List.mem_iff_getElem.1 hx
        rw [HN.out j hj (by omega)]
        simp)
      clear HN hkx hkn hlt
      go_wp2
      go_loopg [7] l.length (fun kx s7 wr => ∃ k : Nat, s7 = .int .i64 k ∧ k ≤ l.length ∧ l.length - k ≤ kx ∧ Hid (∀ j (hj : j < l.length), j < k → badVal l[j] = false) ∧ Hid (Below w.heap.size w wr))
      case atStart => exact ⟨0, rfl, by omega, by omega, Lib.hid (fun j hj h => by omega), HB⟩
      case round =>
        clear HB hltI
        obtain ⟨k, rfl, hkn, hkx, HN, HB⟩ := hrel
        by_cases hlt : k < l.length
        · have hltI : (k : Int) < l.length := by omega
          obtain ⟨ad, rfl, hbl, p0, p1, p2⟩ := (HC.out.below HB.out).pick hlt
          have hbad : badVal l[k] = decide (32768 < l[k].val.length) := rfl
          have hany : badVal l[k] = true → l.any badVal = true := fun h => List.any_eq_true.2 ⟨l[k], List.getElem_mem hlt, h⟩
          generalize hx : l[k] = x at *
          have HX := Lib.hid hx
          have HAny := Lib.hid hany
          have HBad := Lib.hid hbad
          clear hx hany hbad
          by_cases h2 : 32768 < x.val.length
          · have h2I : (32768 : Int) < x.val.length := by omega
            have HR := Lib.hid (HAny.out (by rw [HBad.out, decide_eq_true h2]))
            clear h2
            go_wp2
            go_ret2
            exact ⟨v, by unfold aftN; rw [HK.out, if_neg (by simp), if_pos HR.out]; rfl, by unfold aftR; rw [HK.out, if_neg (by simp), if_pos HR.out]; exact HO.out.below HB.out (Nat.le_refl _), HB.out⟩
          · have h2I : ¬ (32768 : Int) < x.val.length := by omega
            have HV : Hid (badVal x = false) := Lib.hid (by rw [HBad.out, decide_eq_false h2])
            clear h2
            go_wp2
            go_roundg (l.length - (k + 1))
            case measure => omega
            case rel => exact ⟨k + 1, by go_num, by omega, Nat.le_refl _, Lib.hid (fun j hj h => by
              rcases Nat.lt_or_ge j k with h3 | h3
              · exact HN.out j hj h3
              · obtain rfl : j = k := by omega
                rw [HX.out]; exact HV.out), HB⟩
        · have hltI : ¬ (k : Int) < l.length := by omega
          have HV : Hid (l.any badVal = false) := Lib.hid (by
            rw [List.any_eq_false]
            intro x hx
            obtain ⟨j, hj, rfl⟩ := List.mem_iff_getElem.1 hx
            rw [HN.out j hj (by omega)]
            simp)
          clear HN hkx hkn hlt
          go_wp2
          go_loopg [8, 9] l.length (fun kx s8 s9 wr => ∃ k : Nat, s9 = .int .i64 k ∧ k ≤ l.length ∧ l.length - k ≤ kx ∧ Hid (Ow LC wr base s8 (aft (r ++ l.take k))) ∧ Hid (Below w.heap.size w wr))
          case atStart => exact ⟨0, rfl, by omega, by omega, Lib.hid (by rw [List.take_zero, List.append_nil, aft_self HRc.out]; exact HO.out.below HB.out (Nat.le_refl _)), HB⟩
          case round =>
            clear HB hltI
            obtain ⟨k, rfl, hkn, hkx, HX, HB⟩ := hrel
            by_cases hlt : k < l.length
            · have hltI : (k : Int) < l.length := by omega
              obtain ⟨ad, rfl, hbl, p0, p1, p2⟩ := (HC.out.below HB.out).pick hlt
              have HSt := Lib.hid (show putR (aft (r ++ l.take k)) l[k] = aft (r ++ l.take (k + 1)) by rw [aft_step HRc.out, ← List.take_succ_eq_append_getElem hlt])
              have hal := aft_length (r ++ l.take k)
              rw [List.length_append, List.length_take, Nat.min_eq_left hkn] at hal
              obtain ⟨Ax, cx, rfl, hRx, hzx, hcx, -⟩ := HX.out.rw
              have hput := putrec_any Ax cx (aft (r ++ l.take k)) l[k] wr hRx (aft_recs _).1 (by omega) hzx hcx
              have hws := HB.out.size
              generalize l[k] = x at *
              generalize aft (r ++ l.take k) = y at *
              clear hRx hzx hcx
              go_wp2_with fail
              refine hput.mono ?_
              rintro e w1 ⟨v1, rfl, hO1, hB1⟩
              have HO1 := Lib.hid (hO1.mono (b' := base) (by omega))
              have HB1 := Lib.hid (HB.out.trans (hB1.mono HB.out.size))
              clear hput hO1 hB1 HX HB
              go_wp2
              go_roundg (l.length - (k + 1))
              case measure => omega
              case rel => exact ⟨k + 1, by go_num, by omega, Nat.le_refl _, Lib.hid (by rw [← HSt.out]; exact HO1.out), HB1⟩
            · have hltI : ¬ (k : Int) < l.length := by omega
              have ht : l.take k = l := List.take_of_length_le (by omega)
              rw [ht] at HX
              clear ht
              obtain ⟨Ax, cx, rfl, -⟩ := HX.out.rw
              by_cases h3 : 256 < (aft (r ++ l)).length
              · have h3I : (256 : Int) < (aft (r ++ l)).length := by omega
                have HN : Hid (aftN r l = 103) := Lib.hid (by unfold aftN; rw [HK.out, HV.out, if_neg (by simp), if_neg (by simp), if_pos h3])
                have HQ : Hid (aftR r l = r) := Lib.hid (by unfold aftR; rw [HK.out, HV.out, if_neg (by simp), if_neg (by simp), if_pos h3])
                clear h3
                go_wp2
                go_ret2
                exact ⟨v, by rw [HN.out]; rfl, by rw [HQ.out]; exact HO.out.below HB.out (Nat.le_refl _), HB.out⟩
              · have h3I : ¬ (256 : Int) < (aft (r ++ l)).length := by omega
                have HN : Hid (aftN r l = 0) := Lib.hid (by unfold aftN; rw [HK.out, HV.out, if_neg (by simp), if_neg (by simp), if_neg h3])
                have HQ : Hid (aftR r l = aft (r ++ l)) := Lib.hid (by unfold aftR; rw [HK.out, HV.out, if_neg (by simp), if_neg (by simp), if_neg h3])
                clear h3
                go_wp2
                go_ret2
                exact ⟨.slice Ax (aft (r ++ l)).length cx, by rw [HN.out]; rfl, by rw [HQ.out]; exact HX.out, HB.out⟩
end Go.Proofs.YtmpklljiddggpaaGreatDoor

/-
  The walk of the statements' same: has a store just these records? Conditions: each theorem's own premises.
-/
namespace Go.Proofs.YtmpklljiddggpaaGreatDoor
open Go.Shelf Go.RowKit Go.Lib Go.Sort
attribute [local go_sem] Oper.semAt_some

theorem Jr.get {w : World} {base g f m sb : Nat} {v : Value} {t : St} (J : Jr w base g f m sb v t) (hI : Inv' t) (k : List UInt8) : Calls Tryz.prog 20 #[.pointer (some ⟨sb, 0, none⟩), .string ⟨k.toArray⟩] w (RetGet k t.r w) := by
  obtain ⟨A, c, rfl, hC, _⟩ := J.own.chs
  exact get_any sb g t.h A c w.heap.size t.r k w J.st hC (Nat.le_refl _) hI.recs.1 (by have := hI.few; omega)
theorem Jr.keys {w : World} {base g f m sb : Nat} {v : Value} {t : St} (J : Jr w base g f m sb v t) (hI : Inv' t) : Calls Tryz.prog 19 #[.pointer (some ⟨sb, 0, none⟩)] w fun e w' => ∃ v, e = .returned v ∧ Ow LT w' w.heap.size v (keysL t.r) ∧ Below w.heap.size w w' := by
  obtain ⟨A, c, rfl, hC, _⟩ := J.own.chs
  exact keys_any sb g t.h A c w.heap.size t.r w J.st hC (Nat.le_refl _) hI.few
/-- What same leaves. -/
def RetSame (r l : List Chg) (w : World) (e : Ending) (w' : World) : Prop := ∃ b : Bool, e = .returned (.bool b) ∧ (b = true ↔ r = l) ∧ Below w.heap.size w w'
theorem keysL_at (r : List Chg) (k : Nat) (h : k < r.length) : (keysL r)[k]'(by unfold keysL; simpa using h) = r[k].key := by simp [keysL]
set_option maxRecDepth 100000 in
set_option maxHeartbeats 4000000 in
theorem same_any (base g f m sb : Nat) (v : Value) (t : St) (b2 : Nat) (v2 : Value) (l : List Chg) (w : World) (J : Jr w base g f m sb v t) (hI : Inv' t) (hO : Ow LC w b2 v2 l) (hg : ∀ c ∈ l, c.gone = false) (hl : l.length ≤ 100000) :
    Calls Tryz.prog 15 #[.pointer (some ⟨sb, 0, none⟩), v2] w (RetSame t.r l w) := by
  have hk := J.keys hI
  obtain ⟨A2, c2, rfl, hR2, -⟩ := hO.rw
  have HR2 := Lib.hid hR2
  have HJ := Lib.hid J
  have HI := Lib.hid hI
  have HG := Lib.hid hg
  have hfew := hI.few
  clear J hI hO hg hR2
  have hkl : (keysL t.r).length = t.r.length := by simp [keysL]
  go_enter Tryz.func15, Tryz.ntmps15
  go_wp2_with fail
  refine hk.mono ?_
  rintro e w1 ⟨v1, rfl, hO1, hB1⟩
  obtain ⟨A1, c1, rfl, hR1, -⟩ := hO1.rw
  rw [hkl]
  have HR1 := Lib.hid hR1
  have HB1 := Lib.hid hB1
  have hw1 := hB1.size
  clear hk hO1 hR1 hB1
  by_cases hlen : t.r.length = l.length
  · have hlenI : (t.r.length : Int) = l.length := by omega
    go_wp2
    have HLen := Lib.hid hlen
    clear hlen hlenI hkl hfew
    go_loopg [6, 7, 8] l.length (fun kx s6 s7 s8 wr => ∃ k : Nat, s6 = .int .i64 k ∧ k ≤ l.length ∧ l.length - k ≤ kx ∧ Hid (∀ j (hj : j < l.length) (hj' : j < t.r.length), j < k → t.r[j] = l[j]) ∧ Hid (Below w1.heap.size w1 wr))
    case atStart => exact ⟨0, rfl, by omega, by omega, Lib.hid (fun j hj _ h => by omega), Lib.hid (Below.refl _ _)⟩
    case round =>
      obtain ⟨k, rfl, hkn, hkx, HN, HB⟩ := hrel
      have HB0 := Lib.hid (HB1.out.trans (HB.out.mono hw1))
      by_cases hlt : k < l.length
      · have hltI : (k : Int) < l.length := by omega
        have hltR : k < t.r.length := by rw [HLen.out]; exact hlt
        have hltK : k < (keysL t.r).length := by unfold keysL; rw [List.length_map]; exact hltR
        obtain ⟨ad2, rfl, hb2, p2⟩ := (HR2.out.below HB0.out).pick hlt
        obtain ⟨ad1, rfl, hb1, p1⟩ := (HR1.out.below HB.out).pick hltK
        have q1 : wr.cell? (ad1.add (k * 1)) = some (.string ⟨(t.r[k].key).toArray⟩) := by
          have := p1 0 (txt (keysL t.r)[k]) rfl
          rw [keysL_at t.r k hltR] at this
          exact this
        rw [Nat.mul_one] at q1
        have q2 : wr.cell? (ad2.add (k * 2)) = some (.string ⟨l[k].key.toArray⟩) := p2 0 _ rfl
        have q3 : wr.cell? ⟨(ad2.add (k * 2)).block, (ad2.add (k * 2)).off + 1, none⟩ = some (.string ⟨l[k].val.toArray⟩) := by rw [add_one' ad2 (k * 2) 0]; exact p2 1 _ rfl
        have hget := (HJ.out.below HB0.out).get HI.out l[k].key
        obtain ⟨y, hy⟩ : ∃ y, y = t.r[k] := ⟨_, rfl⟩
        obtain ⟨x, hx⟩ : ∃ x, x = l[k] := ⟨_, rfl⟩
        rw [← hy] at q1
        rw [← hx] at q2 q3 hget
        have HY : Hid (∀ h : k < t.r.length, t.r[k] = y) := Lib.hid (fun _ => hy.symm)
        have HX : Hid (∀ h : k < l.length, l[k] = x) := Lib.hid (fun _ => hx.symm)
        have HGt : Hid (y.key = x.key → getV x.key t.r = y.val ∧ getB x.key t.r = true) := Lib.hid (fun h => by rw [hy] at h ⊢; exact get_at HI.out.recs.1 hltR h)
        have HEq : Hid (y.key = x.key → y.val = x.val → y = x) := Lib.hid (fun h1 h2 => chg_ext h1 h2 (by rw [hy, hx]; exact (HI.out.recs.2 _ (List.getElem_mem _)).trans (HG.out _ (List.getElem_mem _)).symm))
        have HNe : Hid (t.r = l → y = x) := Lib.hid (fun h => by rw [hy, hx]; simp only [h])
        clear p1 p2 hy hx hltR hltK
        go_wp2_with fail
        refine hget.mono ?_
        rintro e w2 ⟨rfl, hB2⟩
        have c1 := cell_below q1 hB2 (Nat.le_refl _)
        have c2 := cell_below q2 hB2 (Nat.le_refl _)
        have c3 := cell_below q3 hB2 (Nat.le_refl _)
        have HB2 := Lib.hid (HB.out.trans (hB2.mono HB.out.size))
        have HB3 := Lib.hid (HB0.out.trans (hB2.mono HB0.out.size))
        clear hget q1 q2 q3 hB2 HB HB0
        by_cases hkey : y.key = x.key
        · obtain ⟨g1, g2⟩ := HGt.out hkey
          rw [g1, g2]
          rw [hkey] at c1
          by_cases hval : y.val = x.val
          · have HE := Lib.hid (HEq.out hkey hval)
            rw [hval]
            clear hkey hval g1 g2
            generalize x.key = xk at c1 c2
            generalize x.val = xv at c3 ⊢
            go_wp2_with fail
            go_quiet (fail)
            have HB4 : Hid (Below w1.heap.size w1 (w2.drewN nq)) := Lib.hid (HB2.out.trans ((bl_drew w2 nq).mono HB2.out.size))
            clear HB2 HB3 c1 c2 c3
            generalize w2.drewN nq = W4 at *
            go_wp2
            go_roundg (l.length - (k + 1))
            case measure => omega
            case rel => exact ⟨k + 1, by go_num, by omega, Nat.le_refl _, Lib.hid (fun j hj hj' h => by
              rcases Nat.lt_or_ge j k with h3 | h3
              · exact HN.out j hj hj' h3
              · obtain rfl : j = k := by omega
                rw [HY.out hj', HX.out hj]; exact HE.out), HB4⟩
          · have HE := Lib.hid (show t.r ≠ l from fun e => hval (by rw [HNe.out e]))
            have hvB : (y.val == x.val) = false := by rw [beq_eq_false_iff_ne]; exact hval
            clear hkey hval g1 g2
            generalize x.key = xk at c1 c2
            generalize x.val = xv at c3 hvB
            generalize y.val = u at hvB ⊢
            go_wp2_with fail
            go_quiet (fail)
            have HB4 : Hid (Below w.heap.size w (w2.drewN nq)) := Lib.hid (HB3.out.trans ((bl_drew w2 nq).mono HB3.out.size))
            clear HB2 HB3 c1 c2 c3
            generalize w2.drewN nq = W4 at *
            go_wp2
            go_ret
            exact ⟨false, rfl, ⟨fun h => by simp at h, fun h => absurd h HE.out⟩, HB4.out⟩
        · have HE := Lib.hid (show t.r ≠ l from fun e => hkey (by rw [HNe.out e]))
          have hvB : (y.key == x.key) = false := by rw [beq_eq_false_iff_ne]; exact hkey
          clear hkey
          generalize getV x.key t.r = z1
          generalize getB x.key t.r = z2
          generalize x.key = xk at c2 hvB
          generalize x.val = xv at c3
          generalize y.key = u at hvB c1
          go_wp2_with fail
          go_quiet (fail)
          have HB4 : Hid (Below w.heap.size w (w2.drewN nq)) := Lib.hid (HB3.out.trans ((bl_drew w2 nq).mono HB3.out.size))
          clear HB2 HB3 c1 c2 c3
          generalize w2.drewN nq = W4 at *
          go_wp2
          go_ret
          exact ⟨false, rfl, ⟨fun h => by simp at h, fun h => absurd h HE.out⟩, HB4.out⟩
      · have hltI : ¬ (k : Int) < l.length := by omega
        go_wp2
        go_ret
        refine ⟨true, rfl, ⟨fun _ => List.ext_getElem HLen.out fun j h1 h2 => HN.out j h2 h1 (by omega), fun _ => rfl⟩, HB0.out⟩
  · have hlenI : ¬ (t.r.length : Int) = l.length := by omega
    go_wp2
    go_ret
    have hne : t.r ≠ l := fun h => hlen (by rw [h])
    exact ⟨false, rfl, ⟨fun h => by simp at h, fun h => absurd h hne⟩, HB1.out⟩
end Go.Proofs.YtmpklljiddggpaaGreatDoor
