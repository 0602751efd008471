/-
  The walks of 'with' and 'find' of the document's disk. Conditions: each theorem's own premises.
-/
import Derived.Test.YtgombgkfocpacaaDoorDkR1
namespace Go.Proofs.YtgombgkfocpacaaDoor
open Go.RowKit Go.Maps

/-- What is still to come, x put in or not. -/
def remW (x : BV) (dn : Bool) (p : Pend) : Pend := if dn then p.filter (fun y => decide (y.1 ≠ x.i)) else insP x.i x.l p
/-- What 'with' leaves. -/
def RetWith (X : List Nat) (p : Pend) (w : World) (e : Ending) (w' : World) : Prop := ∃ A c bs, e = .returned (.slice A bs.length c) ∧ pairsB bs = p ∧ Bks w' X A bs ∧ Below w.heap.size w w'
/-- Where its loop stands. -/
def WiRel (w : World) (x : BV) (bs : List BV) (v d i : Value) (wr : World) : Prop :=
  ∃ (k : Nat) (dn : Bool) (o : List BV), k ≤ bs.length ∧ i = .int .i64 (k : Int) ∧ d = .bool dn ∧ wr.ownsRow (w.heap.size + 1) 76 2 v o.length (cellsB o) ∧ o.length ≤ k + dn.toNat ∧ (∀ b ∈ o, b = x ∨ b ∈ bs) ∧
    pairsB o ++ remW x dn (pairsB (bs.drop k)) = insP x.i x.l (pairsB bs) ∧ Below w.heap.size w wr ∧ Blk wr w.heap.size 76 #[.int .i64 x.i, .slice x.A x.l.length x.c]

theorem insP_lt {x : BV} {y : BV} {r : List BV} (h : ¬ x.i ≤ y.i) : insP x.i x.l (pairsB (y :: r)) = y.pair :: insP x.i x.l (pairsB r) := by
  show (if x.i < y.i then _ else if x.i = y.i then _ else _) = _
  rw [if_neg (by omega), if_neg (by omega)]
  rfl
theorem filter_all_gt {x y : BV} {r : List BV} (h : x.i ≤ y.i) (hs : (pairsB (y :: r)).Pairwise (fun a b => a.1 < b.1)) : (pairsB r).filter (fun z => decide (z.1 ≠ x.i)) = pairsB r := by
  refine List.filter_eq_self.2 fun z hz => ?_
  have : y.i < z.1 := (List.pairwise_cons.1 hs).1 z hz
  simp
  omega
theorem insP_ge {x y : BV} {r : List BV} (h : x.i ≤ y.i) (hs : (pairsB (y :: r)).Pairwise (fun a b => a.1 < b.1)) : insP x.i x.l (pairsB (y :: r)) = x.pair :: (if y.i = x.i then [] else [y.pair]) ++ remW x true (pairsB r) := by
  have hf := filter_all_gt h hs
  show (if x.i < y.i then _ else if x.i = y.i then _ else _) = _
  unfold remW
  rw [if_pos rfl, hf]
  by_cases e : y.i = x.i
  · rw [if_neg (by omega), if_pos e.symm, if_pos e]; rfl
  · rw [if_pos (by omega), if_neg e]; rfl
theorem rem_true {x y : BV} {r : List BV} : remW x true (pairsB (y :: r)) = (if y.i = x.i then [] else [y.pair]) ++ remW x true (pairsB r) := by
  unfold remW
  rw [if_pos rfl, if_pos rfl]
  show List.filter _ (y.pair :: pairsB r) = _
  rw [List.filter_cons]
  by_cases e : y.i = x.i
  · rw [if_neg (by simp [BV.pair, e]), if_pos e]; rfl
  · rw [if_pos (by simp [BV.pair, e]), if_neg e]; rfl

theorem wi_end {X : List Nat} {w wr : World} {x : BV} {bs o : List BV} {v : Value} {P : Pend} (hO : wr.ownsRow (w.heap.size + 1) 76 2 v o.length (cellsB o)) (hoe : ∀ b ∈ o, b = x ∨ b ∈ bs) (hp : pairsB o = P) (hBl : Below w.heap.size w wr)
    (hX : ∀ y ∈ X, y < w.heap.size) {A : Option Addr} (hB : Bks w X A bs) (hx : StrX w X x.A x.l) : RetWith X P w (.returned v) wr := by
  obtain ⟨A', c', rfl, h1⟩ := bks_own (X := X) hO (fun y hy => by have := hX y hy; omega) (fun b hb => by
    rcases hoe b hb with rfl | h
    · exact hx.kp (Kp.of_below hBl)
    · exact (hB.each b h).kp (Kp.of_below hBl))
  exact ⟨A', c', o, rfl, hp, h1, hBl⟩
theorem wi_next {x y : BV} {bs o : List BV} {P : Pend} {k : Nat} (hk : k < bs.length) (hy : y = bs[k]) (hs : (pairsB bs).Pairwise (fun a b => a.1 < b.1)) (dn : Bool) (h : pairsB o ++ remW x dn (pairsB (bs.drop k)) = P) :
    pairsB (o ++ (if dn = false ∧ x.i ≤ y.i then [x] else []) ++ (if y.i = x.i then [] else [y])) ++ remW x (dn || decide (x.i ≤ y.i)) (pairsB (bs.drop (k + 1))) = P := by
  rw [← h, List.drop_eq_getElem_cons hk, ← hy]
  have hs' : (pairsB (y :: bs.drop (k + 1))).Pairwise (fun a b => a.1 < b.1) := by
    have : y :: bs.drop (k + 1) = bs.drop k := by rw [hy, ← List.drop_eq_getElem_cons hk]
    rw [this]
    unfold pairsB at hs ⊢
    rw [List.map_drop]
    exact hs.sublist (List.drop_sublist _ _)
  have hpa : ∀ a b : List BV, pairsB (a ++ b) = pairsB a ++ pairsB b := fun a b => by simp [pairsB]
  have hpi : pairsB (if y.i = x.i then [] else [y]) = if y.i = x.i then [] else [y.pair] := by split <;> rfl
  cases dn
  · by_cases hge : x.i ≤ y.i
    · rw [decide_eq_true hge, if_pos ⟨rfl, hge⟩, hpa, hpa, hpi]
      show _ = pairsB o ++ insP x.i x.l (pairsB (y :: _))
      rw [insP_ge hge hs']
      simp [pairsB]
    · rw [decide_eq_false hge, if_neg (fun h => hge h.2), if_neg (by omega), hpa, hpa]
      show _ ++ insP x.i x.l _ = pairsB o ++ insP x.i x.l (pairsB (y :: _))
      rw [insP_lt hge]
      simp [pairsB]
  · rw [if_neg (by simp), hpa, hpa, hpi, Bool.true_or, rem_true]
    simp [pairsB]

set_option maxRecDepth 100000 in
set_option maxHeartbeats 2000000 in
theorem with_any (X : List Nat) (A : Option Addr) (n c : Nat) (bs : List BV) (x : BV) (w : World) (hB : Bks w X A bs) (hn : n = bs.length) (hx : StrX w X x.A x.l) (hX : ∀ y ∈ X, y < w.heap.size) (hs : (pairsB bs).Pairwise (fun a b => a.1 < b.1)) (hl : n ≤ 16384) :
    Calls Tryd.prog 38 #[.slice A n c, .agg #[.int .i64 x.i, .slice x.A x.l.length x.c]] w (RetWith X (insP x.i x.l (pairsB bs)) w) := by
  have HB := Lib.hid hB
  have HN := Lib.hid hn
  have HX := Lib.hid hX
  have HS := Lib.hid hs
  have Hx := Lib.hid hx
  clear hB hn hX hs hx
  obtain ⟨xi, hxi⟩ : ∃ z, z = x.i := ⟨_, rfl⟩
  obtain ⟨xs, hxs⟩ : ∃ z, z = Value.slice x.A x.l.length x.c := ⟨_, rfl⟩
  have HXI := Lib.hid hxi
  have HXS := Lib.hid hxs
  rw [← hxi, ← hxs]
  generalize hP : insP xi x.l (pairsB bs) = P
  rw [hxi] at hP
  have HP := Lib.hid hP
  clear hP hxi hxs
  go_enter Tryd.func38, Tryd.ntmps38
  go_wp2_with fail
  have hbx : Blk (w.alloc (.cells #[.int .i64 xi, xs] 76)) w.heap.size 76 #[.int .i64 xi, xs] := heap_alloc_new w _
  have hB0 : Below w.heap.size w (w.alloc (.cells #[.int .i64 xi, xs] 76)) := (Below.refl _ _).alloc (Nat.le_refl _) _
  rw [HXI.out, HXS.out] at hbx
  have Hbx := Lib.hid hbx
  have HB0 := Lib.hid hB0
  clear hbx hB0
  have HP0 : Hid (pairsB ([] : List BV) ++ remW x false (pairsB (bs.drop 0)) = insP x.i x.l (pairsB bs)) := Lib.hid rfl
  go_loopw [5, 6, 7] (fun v d i wr => WiRel w x bs v d i wr) (fun _ _ i _ => n - (intOf i).toNat)
  case atStart => exact ⟨0, false, [], Nat.zero_le _, rfl, rfl, World.ownsRow_nil _ _ _ _, by simp, by simp, HP0.out, by rw [HXI.out, HXS.out] at *; exact HB0.out, by rw [HXI.out, HXS.out] at *; exact Hbx.out⟩
  case round =>
    obtain ⟨k, dn, o, hk, rfl, rfl, hO, hol, hoe, hrem, hBl, hbx⟩ := hrel
    clear HB0 Hbx HP0
    rw [← HXI.out, ← HXS.out] at hbx
    have e0 : wr.cell? ⟨w.heap.size, 0, none⟩ = some (.int .i64 xi) := hbx.cell 0
    have e1 : wr.cell? ⟨w.heap.size, 1, none⟩ = some xs := hbx.cell 1
    have hwl := hbx.lt
    have HO := Lib.hid hO
    have HOe := Lib.hid hoe
    have HR := Lib.hid hrem
    have HBl := Lib.hid hBl
    have Hbx := Lib.hid hbx
    clear hO hoe hrem hBl hbx
    have hkn : k ≤ n := by have := HN.out; omega
    by_cases hlt : k < n
    · have hkb : k < bs.length := by have := HN.out; omega
      have hltI : (k : Int) < n := by omega
      obtain ⟨ad, hA, _, hy0, hy1⟩ := HB.out.pick hkb
      obtain ⟨yi, hyi⟩ : ∃ z, z = bs[k].i := ⟨_, rfl⟩
      obtain ⟨ys, hys⟩ : ∃ z, z = Value.slice bs[k].A bs[k].l.length bs[k].c := ⟨_, rfl⟩
      rw [← hyi] at hy0
      rw [← hys] at hy1
      have HY0 : Hid (∀ W, Below w.heap.size w W → W.cell? (ad.add (k * 2)) = some (.int .i64 yi)) := Lib.hid fun W hW => (Kp.of_below (X := []) hW) _ _ (by simp) hy0
      have HY1 : Hid (∀ W, Below w.heap.size w W → W.cell? ⟨(ad.add (k * 2)).block, (ad.add (k * 2)).off + 1, none⟩ = some ys) := Lib.hid fun W hW => (Kp.of_below (X := []) hW) _ _ (by simp) hy1
      have HYI := Lib.hid hyi
      have HYS := Lib.hid hys
      subst hA
      clear hy0 hy1 hyi hys
      have c0 := HY0.out wr HBl.out
      have c1 := HY1.out wr HBl.out
      have hol1 : o.length ≤ k + 1 := by have := Bool.toNat_le dn; omega
      cases dn
      · have hol0 : o.length ≤ k := hol
        by_cases hge : xi ≤ yi
        · have hged : decide (xi ≤ yi) = true := decide_eq_true hge
          go_wp2_with fail
          go_quiet (fail)
          have HO1 : Hid ((wr.drewN nq).ownsRow (w.heap.size + 1) 76 2 u5 o.length (cellsB o)) := HO
          have HBl1 := Lib.hid (HBl.out.trans ((below_drewN wr nq).mono HBl.out.size))
          have Hbx1 : Hid (Blk (wr.drewN nq) w.heap.size 76 #[.int .i64 xi, xs]) := Hbx
          have e0 : (wr.drewN nq).cell? ⟨w.heap.size, 0, none⟩ = some (.int .i64 xi) := e0
          have e1 : (wr.drewN nq).cell? ⟨w.heap.size, 1, none⟩ = some xs := e1
          have hwl : w.heap.size < (wr.drewN nq).heap.size := hwl
          generalize wr.drewN nq = w1 at *
          have c0 := HY0.out w1 HBl1.out
          have c1 := HY1.out w1 HBl1.out
          clear HO HBl Hbx
          have hnx := wi_next hkb rfl HS.out false HR.out
          rw [if_pos ⟨rfl, by rw [← HXI.out, ← HYI.out]; exact hge⟩, decide_eq_true (show x.i ≤ bs[k].i by rw [← HXI.out, ← HYI.out]; exact hge)] at hnx
          have HNx := Lib.hid hnx
          clear hnx
          by_cases hne : yi = xi
          · have heb : (yi == xi) = true := by rw [beq_iff_eq]; exact hne
            obtain ⟨v1, w2, hrun, hO2, hB2, _⟩ := append_blk w1 (w.heap.size + 1) u5 o x HO1.out (by omega) (by omega)
            rw [← HXI.out, ← HXS.out] at hrun
            have HO2 := Lib.hid hO2
            have HBl2 := Lib.hid (HBl1.out.trans (hB2.mono (by omega)))
            have hbx2 := Hbx1.out.below hB2 (by omega)
            have Hbx2 := Lib.hid hbx2
            have e0 : w2.cell? ⟨w.heap.size, 0, none⟩ = some (.int .i64 xi) := hbx2.cell 0
            have e1 : w2.cell? ⟨w.heap.size, 1, none⟩ = some xs := hbx2.cell 1
            have hwl2 := hbx2.lt
            have c0 := HY0.out w2 HBl2.out
            have c1 := HY1.out w2 HBl2.out
            clear hO2 hB2 hbx2 HO1 HBl1 Hbx1
            go_wp2_with (first | (at_builtin; refine wpList_append_eq rfl _ _ 45 rfl _ _ v1 w2 rfl rfl (hrun _) ?_) | go_in)
            go_quiet (fail)
            have HO3 : Hid ((w2.drewN nq).ownsRow (w.heap.size + 1) 76 2 v1 (o ++ [x]).length (cellsB (o ++ [x]))) := HO2
            have HBl3 := Lib.hid (HBl2.out.trans ((below_drewN w2 nq).mono HBl2.out.size))
            have Hbx3 : Hid (Blk (w2.drewN nq) w.heap.size 76 #[.int .i64 xi, xs]) := Hbx2
            have hwl3 : w.heap.size < (w2.drewN nq).heap.size := hwl2
            generalize w2.drewN nq = w3 at *
            have c0 := HY0.out w3 HBl3.out
            have c1 := HY1.out w3 HBl3.out
            clear HO2 HBl2 Hbx2 e0 e1 hwl2
            go_wp2
            go_roundw
            case rel => exact ⟨k + 1, true, o ++ [x], hkb, by go_num, rfl, HO3.out, by simp; omega, by intro b hb; simp at hb; rcases hb with hb | rfl; exact HOe.out b hb; exact .inl rfl, by have := HNx.out; rw [if_pos (by rw [← HXI.out, ← HYI.out]; exact hne)] at this; simpa using this, HBl3.out, by rw [← HXI.out, ← HXS.out]; exact Hbx3.out⟩
            case measure => simp [intOf]; omega
          · have heb : (yi == xi) = false := by rw [beq_eq_false_iff_ne]; exact hne
            obtain ⟨v1, w2, hrun, hO2, hB2, _⟩ := append_blk w1 (w.heap.size + 1) u5 o x HO1.out (by omega) (by omega)
            rw [← HXI.out, ← HXS.out] at hrun
            have HO2 := Lib.hid hO2
            have HBl2 := Lib.hid (HBl1.out.trans (hB2.mono (by omega)))
            have hbx2 := Hbx1.out.below hB2 (by omega)
            have Hbx2 := Lib.hid hbx2
            have e0 : w2.cell? ⟨w.heap.size, 0, none⟩ = some (.int .i64 xi) := hbx2.cell 0
            have e1 : w2.cell? ⟨w.heap.size, 1, none⟩ = some xs := hbx2.cell 1
            have hwl2 := hbx2.lt
            have c0 := HY0.out w2 HBl2.out
            have c1 := HY1.out w2 HBl2.out
            clear hO2 hB2 hbx2 HO1 HBl1 Hbx1
            go_wp2_with (first | (at_builtin; refine wpList_append_eq rfl _ _ 45 rfl _ _ v1 w2 rfl rfl (hrun _) ?_) | go_in)
            go_quiet (fail)
            have HO3 : Hid ((w2.drewN nq).ownsRow (w.heap.size + 1) 76 2 v1 (o ++ [x]).length (cellsB (o ++ [x]))) := HO2
            have HBl3 := Lib.hid (HBl2.out.trans ((below_drewN w2 nq).mono HBl2.out.size))
            have Hbx3 : Hid (Blk (w2.drewN nq) w.heap.size 76 #[.int .i64 xi, xs]) := Hbx2
            have hwl3 : w.heap.size < (w2.drewN nq).heap.size := hwl2
            generalize w2.drewN nq = w3 at *
            have c0 := HY0.out w3 HBl3.out
            have c1 := HY1.out w3 HBl3.out
            clear HO2 HBl2 Hbx2 e0 e1 hwl2
            obtain ⟨v4, w4, hrun4, hO4, hB4, _⟩ := append_blk w3 (w.heap.size + 1) v1 (o ++ [x]) bs[k] HO3.out (by omega) (by simp; omega)
            rw [← HYI.out, ← HYS.out] at hrun4
            have HO4 := Lib.hid hO4
            have HBl4 := Lib.hid (HBl3.out.trans (hB4.mono (by omega)))
            have Hbx4 := Lib.hid (Hbx3.out.below hB4 (by omega))
            clear hO4 hB4
            go_wp2_with (first | (at_builtin; refine wpList_append_eq rfl _ _ 45 rfl _ _ v4 w4 rfl rfl (hrun4 _) ?_) | go_in)
            go_roundw
            case rel => exact ⟨k + 1, true, o ++ [x] ++ [bs[k]], hkb, by go_num, rfl, HO4.out, by simp; omega, by intro b hb; simp at hb; rcases hb with hb | rfl | rfl; exact HOe.out b hb; exact .inl rfl; exact .inr (List.getElem_mem _), by have := HNx.out; rw [if_neg (by rw [← HXI.out, ← HYI.out]; exact hne)] at this; simpa using this, HBl4.out, by rw [← HXI.out, ← HXS.out]; exact Hbx4.out⟩
            case measure => simp [intOf]; omega
        · have hged : decide (xi ≤ yi) = false := decide_eq_false hge
          have HGe := Lib.hid hge
          have heb : (yi == xi) = false := by rw [beq_eq_false_iff_ne]; omega
          go_wp2_with fail
          go_quiet (fail)
          have HO1 : Hid ((wr.drewN nq).ownsRow (w.heap.size + 1) 76 2 u5 o.length (cellsB o)) := HO
          have HBl1 := Lib.hid (HBl.out.trans ((below_drewN wr nq).mono HBl.out.size))
          have Hbx1 : Hid (Blk (wr.drewN nq) w.heap.size 76 #[.int .i64 xi, xs]) := Hbx
          have e0 : (wr.drewN nq).cell? ⟨w.heap.size, 0, none⟩ = some (.int .i64 xi) := e0
          have e1 : (wr.drewN nq).cell? ⟨w.heap.size, 1, none⟩ = some xs := e1
          have hwl : w.heap.size < (wr.drewN nq).heap.size := hwl
          generalize wr.drewN nq = w1 at *
          have c0 := HY0.out w1 HBl1.out
          have c1 := HY1.out w1 HBl1.out
          clear HO HBl Hbx
          have hnx := wi_next hkb rfl HS.out false HR.out
          rw [if_neg (fun h => by have h1 := h.2; rw [← HXI.out, ← HYI.out] at h1; have := HGe.out; omega), decide_eq_false (fun h => by rw [← HXI.out, ← HYI.out] at h; have := HGe.out; omega), if_neg (by rw [← HXI.out, ← HYI.out]; have := HGe.out; omega)] at hnx
          have HNx := Lib.hid hnx
          clear hnx
          go_wp2_with fail
          go_quiet (fail)
          have HO3 : Hid ((w1.drewN nq).ownsRow (w.heap.size + 1) 76 2 u5 o.length (cellsB o)) := HO1
          have HBl3 := Lib.hid (HBl1.out.trans ((below_drewN w1 nq).mono HBl1.out.size))
          have Hbx3 : Hid (Blk (w1.drewN nq) w.heap.size 76 #[.int .i64 xi, xs]) := Hbx1
          have hwl3 : w.heap.size < (w1.drewN nq).heap.size := hwl
          generalize w1.drewN nq = w3 at *
          have c0 := HY0.out w3 HBl3.out
          have c1 := HY1.out w3 HBl3.out
          clear HO1 HBl1 Hbx1 e0 e1
          obtain ⟨v4, w4, hrun4, hO4, hB4, _⟩ := append_blk w3 (w.heap.size + 1) u5 o bs[k] HO3.out (by omega) (by omega)
          rw [← HYI.out, ← HYS.out] at hrun4
          have HO4 := Lib.hid hO4
          have HBl4 := Lib.hid (HBl3.out.trans (hB4.mono (by omega)))
          have Hbx4 := Lib.hid (Hbx3.out.below hB4 (by omega))
          clear hO4 hB4
          go_wp2_with (first | (at_builtin; refine wpList_append_eq rfl _ _ 45 rfl _ _ v4 w4 rfl rfl (hrun4 _) ?_) | go_in)
          go_roundw
          case rel => exact ⟨k + 1, false, o ++ [bs[k]], hkb, by go_num, rfl, HO4.out, by simp; omega, by intro b hb; simp at hb; rcases hb with hb | rfl; exact HOe.out b hb; exact .inr (List.getElem_mem _), by simpa using HNx.out, HBl4.out, by rw [← HXI.out, ← HXS.out]; exact Hbx4.out⟩
          case measure => simp [intOf]; omega
      · have hnx := wi_next hkb rfl HS.out true HR.out
        rw [if_neg (by simp), Bool.true_or] at hnx
        have HNx := Lib.hid hnx
        clear hnx
        go_wp2_with fail
        go_quiet (fail)
        have HO1 : Hid ((wr.drewN nq).ownsRow (w.heap.size + 1) 76 2 u5 o.length (cellsB o)) := HO
        have HBl1 := Lib.hid (HBl.out.trans ((below_drewN wr nq).mono HBl.out.size))
        have Hbx1 : Hid (Blk (wr.drewN nq) w.heap.size 76 #[.int .i64 xi, xs]) := Hbx
        have e0 : (wr.drewN nq).cell? ⟨w.heap.size, 0, none⟩ = some (.int .i64 xi) := e0
        have e1 : (wr.drewN nq).cell? ⟨w.heap.size, 1, none⟩ = some xs := e1
        have hwl : w.heap.size < (wr.drewN nq).heap.size := hwl
        generalize wr.drewN nq = w1 at *
        have c0 := HY0.out w1 HBl1.out
        have c1 := HY1.out w1 HBl1.out
        clear HO HBl Hbx
        by_cases hne : yi = xi
        · have heb : (yi == xi) = true := by rw [beq_iff_eq]; exact hne
          have hnx := HNx.out
          rw [if_pos (by rw [← HXI.out, ← HYI.out]; exact hne)] at hnx
          have HNy := Lib.hid hnx
          clear hnx
          go_wp2_with fail
          go_quiet (fail)
          have HO3 : Hid ((w1.drewN nq).ownsRow (w.heap.size + 1) 76 2 u5 o.length (cellsB o)) := HO1
          have HBl3 := Lib.hid (HBl1.out.trans ((below_drewN w1 nq).mono HBl1.out.size))
          have Hbx3 : Hid (Blk (w1.drewN nq) w.heap.size 76 #[.int .i64 xi, xs]) := Hbx1
          have hwl3 : w.heap.size < (w1.drewN nq).heap.size := hwl
          generalize w1.drewN nq = w3 at *
          have c0 := HY0.out w3 HBl3.out
          have c1 := HY1.out w3 HBl3.out
          clear HO1 HBl1 Hbx1 e0 e1
          go_wp2
          go_roundw
          case rel => exact ⟨k + 1, true, o, hkb, by go_num, rfl, HO3.out, by simp; omega, HOe.out, by simpa using HNy.out, HBl3.out, by rw [← HXI.out, ← HXS.out]; exact Hbx3.out⟩
          case measure => simp [intOf]; omega
        · have heb : (yi == xi) = false := by rw [beq_eq_false_iff_ne]; exact hne
          have hnx := HNx.out
          rw [if_neg (by rw [← HXI.out, ← HYI.out]; exact hne)] at hnx
          have HNy := Lib.hid hnx
          clear hnx
          go_wp2_with fail
          go_quiet (fail)
          have HO3 : Hid ((w1.drewN nq).ownsRow (w.heap.size + 1) 76 2 u5 o.length (cellsB o)) := HO1
          have HBl3 := Lib.hid (HBl1.out.trans ((below_drewN w1 nq).mono HBl1.out.size))
          have Hbx3 : Hid (Blk (w1.drewN nq) w.heap.size 76 #[.int .i64 xi, xs]) := Hbx1
          have hwl3 : w.heap.size < (w1.drewN nq).heap.size := hwl
          generalize w1.drewN nq = w3 at *
          have c0 := HY0.out w3 HBl3.out
          have c1 := HY1.out w3 HBl3.out
          clear HO1 HBl1 Hbx1 e0 e1
          obtain ⟨v4, w4, hrun4, hO4, hB4, _⟩ := append_blk w3 (w.heap.size + 1) u5 o bs[k] HO3.out (by omega) (by omega)
          rw [← HYI.out, ← HYS.out] at hrun4
          have HO4 := Lib.hid hO4
          have HBl4 := Lib.hid (HBl3.out.trans (hB4.mono (by omega)))
          have Hbx4 := Lib.hid (Hbx3.out.below hB4 (by omega))
          clear hO4 hB4
          go_wp2_with (first | (at_builtin; refine wpList_append_eq rfl _ _ 45 rfl _ _ v4 w4 rfl rfl (hrun4 _) ?_) | go_in)
          go_roundw
          case rel => exact ⟨k + 1, true, o ++ [bs[k]], hkb, by go_num, rfl, HO4.out, by simp; omega, by intro b hb; simp at hb; rcases hb with hb | rfl; exact HOe.out b hb; exact .inr (List.getElem_mem _), by simpa using HNy.out, HBl4.out, by rw [← HXI.out, ← HXS.out]; exact Hbx4.out⟩
          case measure => simp [intOf]; omega
    · have hltI : ¬ (k : Int) < n := by omega
      have hrem := HR.out
      rw [List.drop_eq_nil_of_le (by have := HN.out; omega)] at hrem
      have HRe := Lib.hid hrem
      clear hrem
      have hol1 : o.length ≤ k + 1 := by have := Bool.toNat_le dn; omega
      cases dn
      · obtain ⟨v4, w4, hrun4, hO4, hB4, _⟩ := append_blk wr (w.heap.size + 1) u5 o x HO.out (by omega) (by omega)
        rw [← HXI.out, ← HXS.out] at hrun4
        have HE : Hid (RetWith X P w (.returned v4) w4) := Lib.hid (wi_end hO4 (by intro b hb; simp at hb; rcases hb with hb | rfl; exact HOe.out b hb; exact .inl rfl) (by rw [← HP.out, ← HRe.out]; simp [pairsB, remW, insP, BV.pair]) (HBl.out.trans (hB4.mono (by omega))) HX.out HB.out Hx.out)
        clear hO4 hB4
        go_wp2_with (first | (at_builtin; refine wpList_append_eq rfl _ _ 45 rfl _ _ v4 w4 rfl rfl (hrun4 _) ?_) | go_in)
        go_ret
        exact HE.out
      · have HE : Hid (RetWith X P w (.returned u5) wr) := Lib.hid (wi_end HO.out HOe.out (by rw [← HP.out, ← HRe.out]; simp [pairsB, remW]) HBl.out HX.out HB.out Hx.out)
        go_wp2
        go_ret
        exact HE.out
end Go.Proofs.YtgombgkfocpacaaDoor
