/-
  The walk of the documents' Rising. Conditions: each theorem's own premises.
-/
import Derived.Test.YtpfehddkaapjiaaDoorQTrO
namespace Go.Proofs.YtpfehddkaapjiaaDoor
open Go.RowKit Go.Lib Go.Sort Go.Shelf
attribute [local go_sem] Oper.semAt_some

/-- What Rising leaves. -/
def RetRi (w : World) (l : List (List UInt8)) (e : Ending) (w' : World) : Prop := ∃ A c, e = .returned (.slice A (risT l).length c) ∧ Ow LN w' w.heap.size (.slice A (risT l).length c) (risT l) ∧ Below w.heap.size w w'
set_option maxRecDepth 100000 in
set_option maxHeartbeats 4000000 in
theorem rising_any (A : Option Addr) (cp : Nat) (l : List (List UInt8)) (B : Nat) (w : World) (hR : Rw LN w B A l) (hB : B ≤ w.heap.size) (hl : l.length ≤ 100000) :
    Calls Tryd.prog 20 #[.slice A l.length cp] w (RetRi w l) := by
  obtain ⟨len, hlen⟩ : ∃ len, len = l.length := ⟨_, rfl⟩
  rw [← hlen] at hl ⊢
  have HL := Lib.hid hlen
  have HR := Lib.hid (hR.more hB)
  clear hlen hR hB
  go_enter Tryd.func20, Tryd.ntmps20
  go_wp2_with fail
  go_loopw [3, 4] (fun v i wr => ∃ (j : Nat) (o : List (List UInt8)) (A2 : Option Addr) (c2 : Nat), j ≤ len ∧ i = .int .i64 (j : Int) ∧ v = .slice A2 o.length c2 ∧ Hid (o = risT (l.take j)) ∧ Hid (Ow LN wr w.heap.size (.slice A2 o.length c2) o) ∧ Hid (Below w.heap.size w wr)) (fun _ i _ => len - (RowKit.intOf i).toNat)
  case atStart => exact ⟨0, [], none, 0, Nat.zero_le _, rfl, rfl, Lib.hid (by simp [risT]), Lib.hid (Ow.nil LN _ _), Lib.hid (Below.refl _ _)⟩
  case round =>
    obtain ⟨j, o, A2, c2, hj, rfl, rfl, HO, HOw, HB⟩ := hrel
    by_cases hp : j < len
    · have hp' : j < l.length := by rw [← HL.out]; exact hp
      obtain ⟨ad, rfl, hadb, p0⟩ := (HR.out.below HB.out).pick hp'
      have q0 : wr.cell? (ad.add (j * 1)) = some (.string ⟨l[j].toArray⟩) := p0 0 _ rfl
      rw [Nat.mul_one] at q0
      have HT : Hid (risT (l.take (j + 1)) = insT l[j] o) := Lib.hid (by rw [HO.out, ← risT_snoc]; congr 1; simp)
      have hol : o.length ≤ len := by
        have := risT_len _ (l.take j) rfl
        rw [← HO.out] at this
        simp at this
        omega
      obtain ⟨x, hx⟩ : ∃ x, x = l[j] := ⟨_, rfl⟩
      rw [← hx] at q0 HT
      have hpI : (j : Int) < len := by omega
      clear p0 hx hp'
      go_wp2_with fail
      go_loopw [5] (fun s wr2 => ∃ k : Nat, s = .int .i64 (k : Int) ∧ k ≤ o.length ∧ Hid (∀ i (hi : i < o.length), i < k → o[i] < x) ∧ Hid (Below wr.heap.size wr wr2)) (fun s _ => o.length - (RowKit.intOf s).toNat)
      case atStart => exact ⟨0, rfl, Nat.zero_le _, Lib.hid (fun _ _ h => by omega), Lib.hid (Below.refl _ _)⟩
      case round =>
        obtain ⟨k, rfl, hko, HK, HB2⟩ := hrel
        have c0 : wr.cell? (ad.add j) = some (.string ⟨x.toArray⟩) := (HB2.out.cell (by rw [add_block]; exact Nat.lt_of_lt_of_le hadb HB.out.size)).trans q0
        have HOr := Lib.hid (HOw.out.below HB2.out (Nat.le_refl _))
        obtain ⟨A3, c3, hA3, hRw, hnil, hle2, -, -⟩ := HOr.out.rw
        obtain ⟨rfl, rfl⟩ : A2 = A3 ∧ c2 = c3 := by cases hA3; exact ⟨rfl, rfl⟩
        by_cases hlt : k < o.length ∧ ∀ h : k < o.length, o[k] < x
        · obtain ⟨hlt, hv⟩ := hlt
          have hv := hv hlt
          have hltI : (k : Int) < o.length := by omega
          obtain ⟨ad2, rfl, hb2, p2⟩ := hRw.pick hlt
          have r0 : wr.cell? (ad2.add (k * 1)) = some (.string ⟨o[k].toArray⟩) := p2 0 _ rfl
          rw [Nat.mul_one] at r0
          have hvB : Op.bytesLess o[k] x = true := by rw [bytesLess_eq]; exact decide_eq_true hv
          have HK2 : Hid (∀ i (hi : i < o.length), i < k + 1 → o[i] < x) := Lib.hid fun i hi h => by
            rcases Nat.lt_or_ge i k with h2 | h2
            · exact HK.out i hi h2
            · obtain rfl : i = k := by omega
              exact hv
          clear hv p2 hRw hnil hle2 hA3
          generalize o[k] = y at r0 hvB
          go_wp2_with fail
          go_quiet (fail)
          have HB4 := Lib.hid (HB2.out.trans ((bl_drw wr nq).mono HB2.out.size))
          go_wp2
          go_roundw
          case rel => exact ⟨k + 1, by go_num, by omega, HK2, HB4⟩
          case measure => simp [RowKit.intOf]; omega
        · have HSp := Lib.hid (ins_split x o k hko HK.out (fun h hv => hlt ⟨h, fun _ => hv⟩))
          rcases Nat.lt_or_ge k o.length with hk1 | hk1
          · have hltI : (k : Int) < o.length := by omega
            obtain ⟨ad2, rfl, hb2, p2⟩ := hRw.pick hk1
            have r0 : wr.cell? (ad2.add (k * 1)) = some (.string ⟨o[k].toArray⟩) := p2 0 _ rfl
            rw [Nat.mul_one] at r0
            have hv : ¬ o[k] < x := fun hv => hlt ⟨hk1, fun _ => hv⟩
            have hvB : Op.bytesLess o[k] x = false := by rw [bytesLess_eq]; exact decide_eq_false hv
            have HX := Lib.hid (show (∃ h : k < o.length, o[k] = x) ↔ o[k] = x from ⟨fun ⟨_, h⟩ => h, fun h => ⟨hk1, h⟩⟩)
            clear hv p2 hlt hRw hA3 q0
            generalize o[k] = y at r0 hvB HX
            go_wp2_with fail
            go_quiet (fail)
            have d0 : (wr.drewN nq).cell? (ad.add j) = some (.string ⟨x.toArray⟩) := c0
            have t0 : (wr.drewN nq).cell? (ad2.add k) = some (.string ⟨y.toArray⟩) := r0
            have HB3 : Hid (Below w.heap.size w (wr.drewN nq)) := Lib.hid (HB.out.trans ((HB2.out.trans ((bl_drw wr nq).mono HB2.out.size)).mono HB.out.size))
            have HO3 := Lib.hid (HOr.out.below (w' := wr.drewN nq) (bl_drw wr nq) (Nat.le_refl _))
            clear c0 r0 HB2 HOr HOw HB hb2
            generalize wr.drewN nq = W2 at *
            by_cases hx : y = x
            · have HI : Hid (insT x o = o) := Lib.hid (by rw [HSp.out, if_pos (HX.out.2 hx)])
              clear HX HSp
              subst hx
              go_wp2_with fail
              go_quiet (fail)
              have HB4 := Lib.hid (HB3.out.trans ((bl_drw W2 nq).mono HB3.out.size))
              have HO4 := Lib.hid (HO3.out.below (w' := W2.drewN nq) (bl_drw W2 nq) (Nat.le_refl _))
              have HE : Hid (o = risT (l.take (j + 1))) := Lib.hid (by rw [HT.out, HI.out])
              clear HB3 HO3 HO HT HI d0 t0
              go_wp2
              go_roundw
              case rel => exact ⟨j + 1, o, some ad2, c2, by omega, by go_num, rfl, HE, HO4, HB4⟩
              case measure => simp [RowKit.intOf]; omega
            · have HI : Hid (insT x o = o.take k ++ x :: o.drop k) := Lib.hid (by rw [HSp.out, if_neg (fun h => hx (HX.out.1 h))])
              clear HX HSp
              have hxB : (y == x) = false := by rw [beq_eq_false_iff_ne]; exact hx
              go_wp2_with fail
              go_quiet (fail)
              have e0 : (W2.drewN nq).cell? (ad.add j) = some (.string ⟨x.toArray⟩) := d0
              have HB4 := Lib.hid (HB3.out.trans ((bl_drw W2 nq).mono HB3.out.size))
              have HO4 := Lib.hid (HO3.out.below (w' := W2.drewN nq) (bl_drw W2 nq) (Nat.le_refl _))
              clear HB3 HO3 d0 t0
              generalize W2.drewN nq = W3 at *
              clear W2
              go_upto_region 9 with (fail)
              obtain ⟨A3, c3, hA3, hRo, hnil, hle3, -, -⟩ := HO4.out.rw
              obtain ⟨rfl, rfl⟩ : some ad2 = A3 ∧ c2 = c3 := by cases hA3; exact ⟨rfl, rfl⟩
              obtain ⟨v4, w4, hrun4, hO4, hg4⟩ := append_ow LNat (n := k) (c := c2) (ow_texts (o.length + 1) W3.drew (by omega)) ((hRo.take k).keep (w' := W3.drew.alloc (.cells (zeroN (o.length + 1)) 9)) fun p hp => World.cell?_alloc_lt W3.drew _ _ (by show p.block < W3.heap.size; omega)) (by simp; omega) hnil (by simp; omega) (by simp)
              rw [List.nil_append] at hO4
              have hcut := fun W' => ln_cuth (some ad2) o.length c2 k W' (by omega)
              have hmk : ∀ W', (Instr.makeSlice 35 (.int .i64 0) (.int .i64 (IntKind.i64.wrap ((o.length : Int) + 1)))).run Tryd.prog W' = .ok (.slice (some ⟨W'.heap.size, 0, none⟩) 0 (o.length + 1)) (W'.alloc (.cells (zeroN (o.length + 1)) 9)) := fun W' => by
                have q1 : IntKind.i64.wrap ((o.length : Int) + 1) = ((o.length + 1 : Nat) : Int) := by rw [IntKind.wrap_i64]; omega
                rw [q1]
                exact make_texts (o.length + 1) W' (by omega)
              have hb4 : Below W3.heap.size W3 w4 := ((bl_drw W3 1).alloc (Nat.le_refl _) _).grown hg4 (by simp) (fun j hj => by cases hj; exact Nat.le_refl _)
              have hrun4' : ∀ ty, (Builtin.append_ #[35, 35] ty #[.slice (some ⟨W3.heap.size, 0, none⟩) 0 (o.length + 1), .slice (some ad2) k c2]).run Tryd.prog (W3.drew.alloc (.cells (zeroN (o.length + 1)) 9)) = .ok v4 w4 := hrun4
              have f0 : w4.cell? (ad.add j) = some (.string ⟨x.toArray⟩) := (hb4.cell (World.block_lt_of_cell? _ _ e0)).trans e0
              have HB5 := Lib.hid hb4
              have HO5 : Hid (Ow LN w4 W3.heap.size v4 (o.take k)) := Lib.hid hO4
              have HLe := Lib.hid hle3
              have HNl := Lib.hid hnil
              clear hA3 hRo hnil hle3 hrun4 hg4 hb4 hO4 e0
              go_region_held3 (fun _ => True) (trivial)
                (refine step_append_run rfl _ _ 35 35 rfl _ _ rfl rfl _ _ (hrun4' _) ?_)
              clear hrun4' hcut hmk
              obtain ⟨v6, w6, hrun6, hO6, hb6, -, -⟩ := append_ow_one LNat x HO5.out (by simp; omega) (Nat.le_trans (Nat.le_refl _) HB5.out.size)
              have hrun6' : ∀ ty, (Builtin.append_ #[35, 35] ty #[v4, .slice (some ⟨w4.heap.size, 0, none⟩) 1 1]).run Tryd.prog (w4.alloc (.cells #[.string ⟨x.toArray⟩] 9)) = .ok v6 w6 := hrun6
              have HB6 := Lib.hid (HB5.out.trans hb6)
              have HO6 := Lib.hid hO6
              have HO4b := Lib.hid (HO4.out.below HB6.out (Nat.le_refl _))
              clear hrun6 hO6 hb6 HO5 HB5
              obtain ⟨n9, hn9⟩ : ∃ n9, n9 = o.length - k := ⟨_, rfl⟩
              obtain ⟨A9, hA9⟩ : ∃ A9, A9 = (if c2 = k then (some ad2) else ((some ad2) : Option Addr).map (·.add k)) := ⟨_, rfl⟩
              have hcut : ∀ W', (Instr.slice 35 (.slice (some ad2) o.length c2) (some (.int .i64 (k : Int))) none none).run Tryd.prog W' = .ok (.slice A9 n9 (c2 - k)) W' := fun W' => by rw [hA9, hn9]; exact ln_cutl (some ad2) o.length c2 k W' (by omega)
              have hRd : Rw LN w6 w6.heap.size A9 (o.drop k) := by
                obtain ⟨A3, c3, hA3, hRo, -, -, -, -⟩ := HO4b.out.rw
                cases hA3
                rw [hA9]
                exact hRo.lndrop c2 k HLe.out
              obtain ⟨v9, w9, hrun9, hO9, hg9⟩ := append_ow LNat (n := n9) (c := c2 - k) (A := A9) HO6.out hRd (by rw [hn9, List.length_drop]) (fun e => by
                rw [hA9] at e
                by_cases e2 : c2 = k
                · omega
                · rw [if_neg e2] at e
                  cases e) (by simp; omega) HB6.out.size
              obtain ⟨A8, c8, rfl⟩ : ∃ A c, v9 = .slice A (insT x o).length c := by
                obtain ⟨A, c, h, _⟩ := hO9.rw
                exact ⟨A, c, by rw [h, HI.out, List.append_assoc]; rfl⟩
              have HO9 : Hid (Ow LN w9 w.heap.size (.slice A8 (insT x o).length c8) (insT x o)) := Lib.hid (by
                have h := hO9.mono HB4.out.size
                rw [List.append_assoc] at h
                rw [HI.out] at h ⊢
                exact h)
              have HB9 : Hid (Below w.heap.size w w9) := Lib.hid (HB4.out.trans ((HB6.out.grown hg9 HB6.out.size (fun j hj => (HO6.out.block j hj).1)).mono HB4.out.size))
              have hrun9' : ∀ ty, (Builtin.append_ #[35, 35] ty #[v6, .slice A9 n9 (c2 - k)]).run Tryd.prog w6 = .ok (.slice A8 (insT x o).length c8) w9 := hrun9
              have HE : Hid (insT x o = risT (l.take (j + 1))) := Lib.hid HT.out.symm
              clear hRd hrun9 hO9 hg9 hA9 hn9 HO4b HO6 HB6 HO4 HB4 HLe HNl HI HT HO
              go_wp2_with (first | (at_builtin; first | (refine wpList_append_eq rfl _ _ 35 rfl _ _ v6 w6 rfl rfl (hrun6' _) ?_) | (refine Lib.wpList_append_run _ rfl _ _ _ _ rfl _ _ rfl rfl _ _ (hrun9' _) ?_)) | go_in)
              exact ⟨⟨j + 1, insT x o, A8, c8, by omega, by go_num, rfl, HE, HO9, HB9⟩, by simp [RowKit.intOf]; omega⟩
          · have hltI : decide ((k : Int) < o.length) = false := decide_eq_false (by omega)
            have hltN : ¬ k < o.length := by omega
            have HI : Hid (insT x o = o.take k ++ x :: o.drop k) := Lib.hid (by rw [HSp.out, if_neg (fun ⟨h, _⟩ => by omega)])
            clear HSp hRw hA3 hnil hle2 hlt hk1 q0
            go_wp2_with fail
            go_quiet (fail)
            have d0 : (wr.drewN nq).cell? (ad.add j) = some (.string ⟨x.toArray⟩) := c0
            have HB3 : Hid (Below w.heap.size w (wr.drewN nq)) := Lib.hid (HB.out.trans ((HB2.out.trans ((bl_drw wr nq).mono HB2.out.size)).mono HB.out.size))
            have HO3 := Lib.hid (HOr.out.below (w' := wr.drewN nq) (bl_drw wr nq) (Nat.le_refl _))
            clear c0 HB2 HOr HOw HB
            generalize wr.drewN nq = W2 at *
            go_wp2_with fail
            go_quiet (fail)
            have e0 : (W2.drewN nq).cell? (ad.add j) = some (.string ⟨x.toArray⟩) := d0
            have HB4 := Lib.hid (HB3.out.trans ((bl_drw W2 nq).mono HB3.out.size))
            have HO4 := Lib.hid (HO3.out.below (w' := W2.drewN nq) (bl_drw W2 nq) (Nat.le_refl _))
            clear HB3 HO3 d0
            generalize W2.drewN nq = W3 at *
            clear W2
            go_upto_region 9 with (fail)
            obtain ⟨A3, c3, hA3, hRo, hnil, hle3, -, -⟩ := HO4.out.rw
            obtain ⟨rfl, rfl⟩ : A2 = A3 ∧ c2 = c3 := by cases hA3; exact ⟨rfl, rfl⟩
            obtain ⟨v4, w4, hrun4, hO4, hg4⟩ := append_ow LNat (n := k) (c := c2) (ow_texts (o.length + 1) W3.drew (by omega)) ((hRo.take k).keep (w' := W3.drew.alloc (.cells (zeroN (o.length + 1)) 9)) fun p hp => World.cell?_alloc_lt W3.drew _ _ (by show p.block < W3.heap.size; omega)) (by simp; omega) hnil (by simp; omega) (by simp)
            rw [List.nil_append] at hO4
            have hcut := fun W' => ln_cuth A2 o.length c2 k W' (by omega)
            have hmk : ∀ W', (Instr.makeSlice 35 (.int .i64 0) (.int .i64 (IntKind.i64.wrap ((o.length : Int) + 1)))).run Tryd.prog W' = .ok (.slice (some ⟨W'.heap.size, 0, none⟩) 0 (o.length + 1)) (W'.alloc (.cells (zeroN (o.length + 1)) 9)) := fun W' => by
              have q1 : IntKind.i64.wrap ((o.length : Int) + 1) = ((o.length + 1 : Nat) : Int) := by rw [IntKind.wrap_i64]; omega
              rw [q1]
              exact make_texts (o.length + 1) W' (by omega)
            have hb4 : Below W3.heap.size W3 w4 := ((bl_drw W3 1).alloc (Nat.le_refl _) _).grown hg4 (by simp) (fun j hj => by cases hj; exact Nat.le_refl _)
            have hrun4' : ∀ ty, (Builtin.append_ #[35, 35] ty #[.slice (some ⟨W3.heap.size, 0, none⟩) 0 (o.length + 1), .slice A2 k c2]).run Tryd.prog (W3.drew.alloc (.cells (zeroN (o.length + 1)) 9)) = .ok v4 w4 := hrun4
            have f0 : w4.cell? (ad.add j) = some (.string ⟨x.toArray⟩) := (hb4.cell (World.block_lt_of_cell? _ _ e0)).trans e0
            have HB5 := Lib.hid hb4
            have HO5 : Hid (Ow LN w4 W3.heap.size v4 (o.take k)) := Lib.hid hO4
            have HLe := Lib.hid hle3
            have HNl := Lib.hid hnil
            clear hA3 hRo hnil hle3 hrun4 hg4 hb4 hO4 e0
            go_region_held3 (fun _ => True) (trivial)
              (refine step_append_run rfl _ _ 35 35 rfl _ _ rfl rfl _ _ (hrun4' _) ?_)
            clear hrun4' hcut hmk
            obtain ⟨v6, w6, hrun6, hO6, hb6, -, -⟩ := append_ow_one LNat x HO5.out (by simp; omega) (Nat.le_trans (Nat.le_refl _) HB5.out.size)
            have hrun6' : ∀ ty, (Builtin.append_ #[35, 35] ty #[v4, .slice (some ⟨w4.heap.size, 0, none⟩) 1 1]).run Tryd.prog (w4.alloc (.cells #[.string ⟨x.toArray⟩] 9)) = .ok v6 w6 := hrun6
            have HB6 := Lib.hid (HB5.out.trans hb6)
            have HO6 := Lib.hid hO6
            have HO4b := Lib.hid (HO4.out.below HB6.out (Nat.le_refl _))
            clear hrun6 hO6 hb6 HO5 HB5
            obtain ⟨n9, hn9⟩ : ∃ n9, n9 = o.length - k := ⟨_, rfl⟩
            obtain ⟨A9, hA9⟩ : ∃ A9, A9 = (if c2 = k then A2 else A2.map (·.add k)) := ⟨_, rfl⟩
            have hcut : ∀ W', (Instr.slice 35 (.slice A2 o.length c2) (some (.int .i64 (k : Int))) none none).run Tryd.prog W' = .ok (.slice A9 n9 (c2 - k)) W' := fun W' => by rw [hA9, hn9]; exact ln_cutl A2 o.length c2 k W' (by omega)
            have hRd : Rw LN w6 w6.heap.size A9 (o.drop k) := by
              obtain ⟨A3, c3, hA3, hRo, -, -, -, -⟩ := HO4b.out.rw
              cases hA3
              rw [hA9]
              exact hRo.lndrop c2 k HLe.out
            obtain ⟨v9, w9, hrun9, hO9, hg9⟩ := append_ow LNat (n := n9) (c := c2 - k) (A := A9) HO6.out hRd (by rw [hn9, List.length_drop]) (fun e => by
              rw [hA9] at e
              by_cases e2 : c2 = k
              · omega
              · rw [if_neg e2] at e
                have : c2 = 0 := HNl.out (by cases A2 with | none => rfl | some _ => cases e)
                omega) (by simp; omega) HB6.out.size
            obtain ⟨A8, c8, rfl⟩ : ∃ A c, v9 = .slice A (insT x o).length c := by
              obtain ⟨A, c, h, _⟩ := hO9.rw
              exact ⟨A, c, by rw [h, HI.out, List.append_assoc]; rfl⟩
            have HO9 : Hid (Ow LN w9 w.heap.size (.slice A8 (insT x o).length c8) (insT x o)) := Lib.hid (by
              have h := hO9.mono HB4.out.size
              rw [List.append_assoc] at h
              rw [HI.out] at h ⊢
              exact h)
            have HB9 : Hid (Below w.heap.size w w9) := Lib.hid (HB4.out.trans ((HB6.out.grown hg9 HB6.out.size (fun j hj => (HO6.out.block j hj).1)).mono HB4.out.size))
            have hrun9' : ∀ ty, (Builtin.append_ #[35, 35] ty #[v6, .slice A9 n9 (c2 - k)]).run Tryd.prog w6 = .ok (.slice A8 (insT x o).length c8) w9 := hrun9
            have HE : Hid (insT x o = risT (l.take (j + 1))) := Lib.hid HT.out.symm
            clear hRd hrun9 hO9 hg9 hA9 hn9 HO4b HO6 HB6 HO4 HB4 HLe HNl HI HT HO
            go_wp2_with (first | (at_builtin; first | (refine wpList_append_eq rfl _ _ 35 rfl _ _ v6 w6 rfl rfl (hrun6' _) ?_) | (refine Lib.wpList_append_run _ rfl _ _ _ _ rfl _ _ rfl rfl _ _ (hrun9' _) ?_)) | go_in)
            exact ⟨⟨j + 1, insT x o, A8, c8, by omega, by go_num, rfl, HE, HO9, HB9⟩, by simp [RowKit.intOf]; omega⟩
    · obtain rfl : j = len := by omega
      go_wp2
      go_ret
      have e : risT l = o := by rw [HO.out, HL.out, List.take_length]
      unfold RetRi
      rw [e]
      exact ⟨A2, c2, rfl, HOw.out, HB.out⟩
end Go.Proofs.YtpfehddkaapjiaaDoor
