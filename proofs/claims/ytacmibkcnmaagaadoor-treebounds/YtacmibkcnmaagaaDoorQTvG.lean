/-
  The walk of tree's equationError. Conditions: the theorem's own premises.
-/
import Derived.Test.YtacmibkcnmaagaaDoorQTvD
namespace Go.Proofs.YtacmibkcnmaagaaDoor
open Go.RowKit Go.Lib
attribute [local go_sem] Oper.semAt_some

/-- What is amiss with an equation, its parts aside. -/
def eqE (q : Qx) : Option Nat :=
  if q.left.length = 0 then some 1 else if q.left.any badN = true then some 8 else if q.node ≠ [] ∧ badN q.node = true then some 8 else if q.every ≠ [] ∧ badN q.every = true then some 8 else
  if q.node = [] ∧ (q.every ≠ [] ∨ 0 < q.l.length ∨ 1 < q.left.length) then some 1 else if q.node ≠ [] ∧ q.e.op ≠ 0 then some 1 else none

set_option maxRecDepth 100000 in
set_option maxHeartbeats 4000000 in
theorem equationError_any (q : Qx) (w : World) (er : Nat → Addr) (hT : Te w er) (hc : Sl LN w (· < w.heap.size) q.lA q.lc q.left) (hna : q.l.length ≤ 9223372036854775807) : Calls Tryd.prog 35 #[q.val] w fun r w' => r = .returned (erO er (eqE q)) ∧ Below w.heap.size w w' := by
  obtain ⟨pos, lA, lc, left, e, node, A, c, l, every⟩ := q
  have hP : eqE ⟨pos, lA, lc, left, e, node, A, c, l, every⟩ = if left.length = 0 then some 1 else if left.any badN = true then some 8 else if node ≠ [] ∧ badN node = true then some 8 else if every ≠ [] ∧ badN every = true then some 8 else
    if node = [] ∧ (every ≠ [] ∨ 0 < l.length ∨ 1 < left.length) then some 1 else if node ≠ [] ∧ e.op ≠ 0 then some 1 else none := rfl
  unfold Qx.val
  dsimp only at hc hna ⊢
  obtain ⟨op, hop⟩ : ∃ x, x = e.op := ⟨_, rfl⟩
  obtain ⟨ep, hep⟩ : ∃ x, x = e.pos := ⟨_, rfl⟩
  obtain ⟨en, hen⟩ : ∃ x, x = e.n := ⟨_, rfl⟩
  obtain ⟨ename, hname⟩ : ∃ x, x = e.name := ⟨_, rfl⟩
  obtain ⟨eA, heA⟩ : ∃ x, x = e.A := ⟨_, rfl⟩
  obtain ⟨ek, hek⟩ : ∃ x, x = e.l.length := ⟨_, rfl⟩
  obtain ⟨ec, hec⟩ : ∃ x, x = e.c := ⟨_, rfl⟩
  rw [← hop, ← hep, ← hen, ← hname, ← heA, ← hek, ← hec]
  rw [← hop] at hP
  have hlc : left.length ≤ lc := hc.hd.le
  have hcm : lc ≤ 9223372036854775807 := by have := hc.hd.big; simpa [maxLen] using this
  have HK0 : ∀ W, Below w.heap.size w W → Calls Tryd.prog 83 #[.slice lA left.length lc, .func (.func 30) #[] #[]] W fun e w' => e = .returned (.bool (left.any badN)) ∧ Below W.heap.size W w' :=
    fun W hB => hasS_any badN lA lc left W (hc.keep (fun b hb => Nat.lt_of_lt_of_le hb hB.size) fun p hp => hB.cell hp) fun x _ W _ => badName_any x W
  have HN0 := Lib.hid (fun W => badName_any node W)
  have HE0 := Lib.hid (fun W => badName_any every W)
  obtain ⟨len, hln⟩ : ∃ len, len = left.length := ⟨_, rfl⟩
  obtain ⟨na, hnl⟩ : ∃ na, na = l.length := ⟨_, rfl⟩
  rw [← hln] at hP HK0 hlc ⊢
  rw [← hnl] at hP hna ⊢
  obtain ⟨W1, hW1⟩ : ∃ W1, W1 = w.alloc (.cells #[.int .i64 pos, .slice lA len lc, .int .i64 op, .int .i64 ep, .int .i64 en, .string ⟨ename.toArray⟩, .slice eA ek ec, .string ⟨node.toArray⟩, .slice A na c, .string ⟨every.toArray⟩] 37) := ⟨_, rfl⟩
  have hB1 : Below w.heap.size w W1 := by rw [hW1]; exact (Below.refl _ _).alloc (Nat.le_refl _) _
  have hb1 : Blk W1 w.heap.size 37 #[.int .i64 pos, .slice lA len lc, .int .i64 op, .int .i64 ep, .int .i64 en, .string ⟨ename.toArray⟩, .slice eA ek ec, .string ⟨node.toArray⟩, .slice A na c, .string ⟨every.toArray⟩] := by rw [hW1]; exact heap_alloc_new w _
  have HK := Lib.hid (HK0 W1 hB1)
  have HB1 := Lib.hid hB1
  have Hb1 := Lib.hid hb1
  have HT := Lib.hid (hT.below hB1)
  have k1 : W1.cell? ⟨w.heap.size, 1, none⟩ = _ := hb1.cell 1
  have e1 := HT.out.shape
  have MID : ∀ w2, Below W1.heap.size W1 w2 → Te w2 er ∧ w2.cell? ⟨w.heap.size, 1, none⟩ = some (.slice lA len lc) ∧ w2.cell? ⟨w.heap.size, 2, none⟩ = some (.int .i64 op) ∧ w2.cell? ⟨w.heap.size, 7, none⟩ = some (.string ⟨node.toArray⟩) ∧ w2.cell? ⟨w.heap.size, 8, none⟩ = some (.slice A na c) ∧ w2.cell? ⟨w.heap.size, 9, none⟩ = some (.string ⟨every.toArray⟩) := fun w2 h => by
    have hb2 := Hb1.out.below h Hb1.out.lt
    exact ⟨HT.out.below h, hb2.cell 1, hb2.cell 2, hb2.cell 7, hb2.cell 8, hb2.cell 9⟩
  have HM := Lib.hid MID
  generalize left.any badN = b1 at *
  generalize badN node = bn at *
  generalize badN every = be at *
  clear hop hep hen hname heA hek hec hln hnl hB1 hb1 hT hc HK0 MID
  by_cases h0 : len = 0
  · subst h0
    have HP := Lib.hid (hP.trans (show _ = (some 1 : Option Nat) by rw [if_pos rfl]))
    clear hP
    subst hW1
    go_enter Tryd.func35, Tryd.ntmps35
    go_wp2
    all_goals (go_ret; exact ⟨by rw [HP.out]; rfl, HB1.out⟩)
  · have q0 : ((len : Int) == 0) = false := beq_eq_false_iff_ne.2 (by omega)
    cases b1
    · by_cases hn : node = []
      · subst hn
        by_cases hv : every = []
        · subst hv
          by_cases ha : 0 < na
          · have qa : (0 : Int) < (na : Int) := by omega
            have HP := Lib.hid (hP.trans (show _ = (some 1 : Option Nat) by rw [if_neg h0, if_neg (by simp), if_neg (by simp), if_neg (by simp), if_pos ⟨rfl, Or.inr (Or.inl ha)⟩]))
            clear hP
            subst hW1
            go_enter Tryd.func35, Tryd.ntmps35
            go_wp2_with fail
            refine HK.out.mono ?_
            rintro r w2 ⟨rfl, h2⟩
            have HC2 := Lib.hid (h2)
            obtain ⟨t2, m1, m2, m7, m8, m9⟩ := HM.out w2 HC2.out
            have e1 := t2.shape
            have e8 := t2.name
            clear t2 h2
            go_wp2
            all_goals (go_ret; exact ⟨by rw [HP.out]; rfl, HB1.out.trans (HC2.out.mono HB1.out.size)⟩)
          · have qa : ¬ (0 : Int) < (na : Int) := by omega
            by_cases hl : 1 < len
            · have ql : (1 : Int) < (len : Int) := by omega
              have HP := Lib.hid (hP.trans (show _ = (some 1 : Option Nat) by rw [if_neg h0, if_neg (by simp), if_neg (by simp), if_neg (by simp), if_pos ⟨rfl, Or.inr (Or.inr hl)⟩]))
              clear hP
              subst hW1
              go_enter Tryd.func35, Tryd.ntmps35
              go_wp2_with fail
              refine HK.out.mono ?_
              rintro r w2 ⟨rfl, h2⟩
              have HC2 := Lib.hid (h2)
              obtain ⟨t2, m1, m2, m7, m8, m9⟩ := HM.out w2 HC2.out
              have e1 := t2.shape
              have e8 := t2.name
              clear t2 h2
              go_wp2
              all_goals (go_ret; exact ⟨by rw [HP.out]; rfl, HB1.out.trans (HC2.out.mono HB1.out.size)⟩)
            · have ql : ¬ (1 : Int) < (len : Int) := by omega
              have HP := Lib.hid (hP.trans (show _ = (none : Option Nat) by rw [if_neg h0, if_neg (by simp), if_neg (by simp), if_neg (by simp), if_neg (fun h => h.2.elim (fun h => h rfl) fun h => h.elim ha hl), if_neg (by simp)]))
              clear hP
              subst hW1
              go_enter Tryd.func35, Tryd.ntmps35
              go_wp2_with fail
              refine HK.out.mono ?_
              rintro r w2 ⟨rfl, h2⟩
              have HC2 := Lib.hid (h2)
              obtain ⟨t2, m1, m2, m7, m8, m9⟩ := HM.out w2 HC2.out
              have e1 := t2.shape
              have e8 := t2.name
              clear t2 h2
              go_wp2
              all_goals (go_ret; exact ⟨by rw [HP.out]; rfl, HB1.out.trans (HC2.out.mono HB1.out.size)⟩)
        · have hve : every.isEmpty = false := by simpa using hv
          have Hv := Lib.hid hv
          clear hv
          cases be
          · have HP := Lib.hid (hP.trans (show _ = (some 1 : Option Nat) by rw [if_neg h0, if_neg (by simp), if_neg (by simp), if_neg (by simp), if_pos ⟨rfl, Or.inl Hv.out⟩]))
            clear hP
            subst hW1
            go_enter Tryd.func35, Tryd.ntmps35
            go_wp2_with fail
            refine HK.out.mono ?_
            rintro r w2 ⟨rfl, h2⟩
            have HC2 := Lib.hid (h2)
            obtain ⟨t2, m1, m2, m7, m8, m9⟩ := HM.out w2 HC2.out
            have e1 := t2.shape
            have e8 := t2.name
            clear t2 h2
            go_wp2_with fail
            refine (HE0.out _).mono ?_
            rintro r w3 ⟨rfl, h3⟩
            have HC3 := Lib.hid (HC2.out.trans (h3.mono HC2.out.size))
            obtain ⟨t3, m1, m2, m7, m8, m9⟩ := HM.out w3 HC3.out
            have e1 := t3.shape
            have e8 := t3.name
            clear t3 h3
            go_wp2
            all_goals (go_ret; exact ⟨by rw [HP.out]; rfl, HB1.out.trans (HC3.out.mono HB1.out.size)⟩)
          · have HP := Lib.hid (hP.trans (show _ = (some 8 : Option Nat) by rw [if_neg h0, if_neg (by simp), if_neg (by simp), if_pos ⟨Hv.out, rfl⟩]))
            clear hP
            subst hW1
            go_enter Tryd.func35, Tryd.ntmps35
            go_wp2_with fail
            refine HK.out.mono ?_
            rintro r w2 ⟨rfl, h2⟩
            have HC2 := Lib.hid (h2)
            obtain ⟨t2, m1, m2, m7, m8, m9⟩ := HM.out w2 HC2.out
            have e1 := t2.shape
            have e8 := t2.name
            clear t2 h2
            go_wp2_with fail
            refine (HE0.out _).mono ?_
            rintro r w3 ⟨rfl, h3⟩
            have HC3 := Lib.hid (HC2.out.trans (h3.mono HC2.out.size))
            obtain ⟨t3, m1, m2, m7, m8, m9⟩ := HM.out w3 HC3.out
            have e1 := t3.shape
            have e8 := t3.name
            clear t3 h3
            go_wp2
            all_goals (go_ret; exact ⟨by rw [HP.out]; rfl, HB1.out.trans (HC3.out.mono HB1.out.size)⟩)
      · have hne : node.isEmpty = false := by simpa using hn
        have Hn := Lib.hid hn
        clear hn
        cases bn
        · by_cases hv : every = []
          · subst hv
            by_cases ho : op = 0
            · subst ho
              have HP := Lib.hid (hP.trans (show _ = (none : Option Nat) by rw [if_neg h0, if_neg (by simp), if_neg (by simp), if_neg (by simp), if_neg (fun h => Hn.out h.1), if_neg (by simp)]))
              clear hP
              subst hW1
              go_enter Tryd.func35, Tryd.ntmps35
              go_wp2_with fail
              refine HK.out.mono ?_
              rintro r w2 ⟨rfl, h2⟩
              have HC2 := Lib.hid (h2)
              obtain ⟨t2, m1, m2, m7, m8, m9⟩ := HM.out w2 HC2.out
              have e1 := t2.shape
              have e8 := t2.name
              clear t2 h2
              go_wp2_with fail
              refine (HN0.out _).mono ?_
              rintro r w3 ⟨rfl, h3⟩
              have HC3 := Lib.hid (HC2.out.trans (h3.mono HC2.out.size))
              obtain ⟨t3, m1, m2, m7, m8, m9⟩ := HM.out w3 HC3.out
              have e1 := t3.shape
              have e8 := t3.name
              clear t3 h3
              go_wp2
              all_goals (go_ret; exact ⟨by rw [HP.out]; rfl, HB1.out.trans (HC3.out.mono HB1.out.size)⟩)
            · have qo : (op == 0) = false := beq_eq_false_iff_ne.2 ho
              have qo2 : (op != 0) = true := bne_iff_ne.2 ho
              have Ho := Lib.hid ho
              clear ho
              have HP := Lib.hid (hP.trans (show _ = (some 1 : Option Nat) by rw [if_neg h0, if_neg (by simp), if_neg (by simp), if_neg (by simp), if_neg (fun h => Hn.out h.1), if_pos ⟨Hn.out, Ho.out⟩]))
              clear hP
              subst hW1
              go_enter Tryd.func35, Tryd.ntmps35
              go_wp2_with fail
              refine HK.out.mono ?_
              rintro r w2 ⟨rfl, h2⟩
              have HC2 := Lib.hid (h2)
              obtain ⟨t2, m1, m2, m7, m8, m9⟩ := HM.out w2 HC2.out
              have e1 := t2.shape
              have e8 := t2.name
              clear t2 h2
              go_wp2_with fail
              refine (HN0.out _).mono ?_
              rintro r w3 ⟨rfl, h3⟩
              have HC3 := Lib.hid (HC2.out.trans (h3.mono HC2.out.size))
              obtain ⟨t3, m1, m2, m7, m8, m9⟩ := HM.out w3 HC3.out
              have e1 := t3.shape
              have e8 := t3.name
              clear t3 h3
              go_wp2
              all_goals (go_ret; exact ⟨by rw [HP.out]; rfl, HB1.out.trans (HC3.out.mono HB1.out.size)⟩)
          · have hve : every.isEmpty = false := by simpa using hv
            have Hv := Lib.hid hv
            clear hv
            cases be
            · by_cases ho : op = 0
              · subst ho
                have HP := Lib.hid (hP.trans (show _ = (none : Option Nat) by rw [if_neg h0, if_neg (by simp), if_neg (by simp), if_neg (by simp), if_neg (fun h => Hn.out h.1), if_neg (by simp)]))
                clear hP
                subst hW1
                go_enter Tryd.func35, Tryd.ntmps35
                go_wp2_with fail
                refine HK.out.mono ?_
                rintro r w2 ⟨rfl, h2⟩
                have HC2 := Lib.hid (h2)
                obtain ⟨t2, m1, m2, m7, m8, m9⟩ := HM.out w2 HC2.out
                have e1 := t2.shape
                have e8 := t2.name
                clear t2 h2
                go_wp2_with fail
                refine (HN0.out _).mono ?_
                rintro r w3 ⟨rfl, h3⟩
                have HC3 := Lib.hid (HC2.out.trans (h3.mono HC2.out.size))
                obtain ⟨t3, m1, m2, m7, m8, m9⟩ := HM.out w3 HC3.out
                have e1 := t3.shape
                have e8 := t3.name
                clear t3 h3
                go_wp2_with fail
                refine (HE0.out _).mono ?_
                rintro r w4 ⟨rfl, h4⟩
                have HC4 := Lib.hid (HC3.out.trans (h4.mono HC3.out.size))
                obtain ⟨t4, m1, m2, m7, m8, m9⟩ := HM.out w4 HC4.out
                have e1 := t4.shape
                have e8 := t4.name
                clear t4 h4
                go_wp2
                all_goals (go_ret; exact ⟨by rw [HP.out]; rfl, HB1.out.trans (HC4.out.mono HB1.out.size)⟩)
              · have qo : (op == 0) = false := beq_eq_false_iff_ne.2 ho
                have qo2 : (op != 0) = true := bne_iff_ne.2 ho
                have Ho := Lib.hid ho
                clear ho
                have HP := Lib.hid (hP.trans (show _ = (some 1 : Option Nat) by rw [if_neg h0, if_neg (by simp), if_neg (by simp), if_neg (by simp), if_neg (fun h => Hn.out h.1), if_pos ⟨Hn.out, Ho.out⟩]))
                clear hP
                subst hW1
                go_enter Tryd.func35, Tryd.ntmps35
                go_wp2_with fail
                refine HK.out.mono ?_
                rintro r w2 ⟨rfl, h2⟩
                have HC2 := Lib.hid (h2)
                obtain ⟨t2, m1, m2, m7, m8, m9⟩ := HM.out w2 HC2.out
                have e1 := t2.shape
                have e8 := t2.name
                clear t2 h2
                go_wp2_with fail
                refine (HN0.out _).mono ?_
                rintro r w3 ⟨rfl, h3⟩
                have HC3 := Lib.hid (HC2.out.trans (h3.mono HC2.out.size))
                obtain ⟨t3, m1, m2, m7, m8, m9⟩ := HM.out w3 HC3.out
                have e1 := t3.shape
                have e8 := t3.name
                clear t3 h3
                go_wp2_with fail
                refine (HE0.out _).mono ?_
                rintro r w4 ⟨rfl, h4⟩
                have HC4 := Lib.hid (HC3.out.trans (h4.mono HC3.out.size))
                obtain ⟨t4, m1, m2, m7, m8, m9⟩ := HM.out w4 HC4.out
                have e1 := t4.shape
                have e8 := t4.name
                clear t4 h4
                go_wp2
                all_goals (go_ret; exact ⟨by rw [HP.out]; rfl, HB1.out.trans (HC4.out.mono HB1.out.size)⟩)
            · have HP := Lib.hid (hP.trans (show _ = (some 8 : Option Nat) by rw [if_neg h0, if_neg (by simp), if_neg (by simp), if_pos ⟨Hv.out, rfl⟩]))
              clear hP
              subst hW1
              go_enter Tryd.func35, Tryd.ntmps35
              go_wp2_with fail
              refine HK.out.mono ?_
              rintro r w2 ⟨rfl, h2⟩
              have HC2 := Lib.hid (h2)
              obtain ⟨t2, m1, m2, m7, m8, m9⟩ := HM.out w2 HC2.out
              have e1 := t2.shape
              have e8 := t2.name
              clear t2 h2
              go_wp2_with fail
              refine (HN0.out _).mono ?_
              rintro r w3 ⟨rfl, h3⟩
              have HC3 := Lib.hid (HC2.out.trans (h3.mono HC2.out.size))
              obtain ⟨t3, m1, m2, m7, m8, m9⟩ := HM.out w3 HC3.out
              have e1 := t3.shape
              have e8 := t3.name
              clear t3 h3
              go_wp2_with fail
              refine (HE0.out _).mono ?_
              rintro r w4 ⟨rfl, h4⟩
              have HC4 := Lib.hid (HC3.out.trans (h4.mono HC3.out.size))
              obtain ⟨t4, m1, m2, m7, m8, m9⟩ := HM.out w4 HC4.out
              have e1 := t4.shape
              have e8 := t4.name
              clear t4 h4
              go_wp2
              all_goals (go_ret; exact ⟨by rw [HP.out]; rfl, HB1.out.trans (HC4.out.mono HB1.out.size)⟩)
        · have HP := Lib.hid (hP.trans (show _ = (some 8 : Option Nat) by rw [if_neg h0, if_neg (by simp), if_pos ⟨Hn.out, rfl⟩]))
          clear hP
          subst hW1
          go_enter Tryd.func35, Tryd.ntmps35
          go_wp2_with fail
          refine HK.out.mono ?_
          rintro r w2 ⟨rfl, h2⟩
          have HC2 := Lib.hid (h2)
          obtain ⟨t2, m1, m2, m7, m8, m9⟩ := HM.out w2 HC2.out
          have e1 := t2.shape
          have e8 := t2.name
          clear t2 h2
          go_wp2_with fail
          refine (HN0.out _).mono ?_
          rintro r w3 ⟨rfl, h3⟩
          have HC3 := Lib.hid (HC2.out.trans (h3.mono HC2.out.size))
          obtain ⟨t3, m1, m2, m7, m8, m9⟩ := HM.out w3 HC3.out
          have e1 := t3.shape
          have e8 := t3.name
          clear t3 h3
          go_wp2
          all_goals (go_ret; exact ⟨by rw [HP.out]; rfl, HB1.out.trans (HC3.out.mono HB1.out.size)⟩)
    · have HP := Lib.hid (hP.trans (show _ = (some 8 : Option Nat) by rw [if_neg h0, if_pos rfl]))
      clear hP
      subst hW1
      go_enter Tryd.func35, Tryd.ntmps35
      go_wp2_with fail
      refine HK.out.mono ?_
      rintro r w2 ⟨rfl, h2⟩
      have HC2 := Lib.hid (h2)
      obtain ⟨t2, m1, m2, m7, m8, m9⟩ := HM.out w2 HC2.out
      have e1 := t2.shape
      have e8 := t2.name
      clear t2 h2
      go_wp2
      all_goals (go_ret; exact ⟨by rw [HP.out]; rfl, HB1.out.trans (HC2.out.mono HB1.out.size)⟩)
end Go.Proofs.YtacmibkcnmaagaaDoor
