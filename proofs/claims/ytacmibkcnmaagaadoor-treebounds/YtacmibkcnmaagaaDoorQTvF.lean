/-
  The walk of tree's declError. Conditions: the theorem's own premises.
-/
import Derived.Test.YtacmibkcnmaagaaDoorQTvD
namespace Go.Proofs.YtacmibkcnmaagaaDoor
open Go.RowKit Go.Lib
attribute [local go_sem] Oper.semAt_some

/-- What is amiss with a variable. -/
def declE (d : Dc) (local_ : Bool) : Option Nat :=
  if badN d.name = true then some 8 else if d.type ≠ 1 ∧ d.type ≠ 2 then some 1 else if (local_ = false ∧ 0 < d.cks.length) ∨ 4 < d.cks.length then some 1 else if (d.cks.any fun k => badN k.1) = true then some 8 else none

set_option maxRecDepth 100000 in
set_option maxHeartbeats 2000000 in
theorem declError_any (d : Dc) (loc : Bool) (w : World) (er : Nat → Addr) (hT : Te w er) (hc : Sl LC w (· < w.heap.size) d.A d.c d.cks) : Calls Tryd.prog 34 #[d.val, .bool loc] w fun r w' => r = .returned (erO er (declE d loc)) ∧ Below w.heap.size w w' := by
  obtain ⟨pos, name, type, A, c, cks⟩ := d
  have hP : declE ⟨pos, name, type, A, c, cks⟩ loc = if badN name = true then some 8 else if type ≠ 1 ∧ type ≠ 2 then some 1 else if (loc = false ∧ 0 < cks.length) ∨ 4 < cks.length then some 1 else if (cks.any fun k => badN k.1) = true then some 8 else none := rfl
  unfold Dc.val
  dsimp only at hc ⊢
  have hlc : cks.length ≤ c := hc.hd.le
  have hcm : c ≤ 9223372036854775807 := by have := hc.hd.big; simpa [maxLen] using this
  obtain ⟨W1, hW1⟩ : ∃ W1, W1 = w.alloc (.cells #[.int .i64 pos, .string ⟨name.toArray⟩, .int .i64 type, .slice A cks.length c] 26) := ⟨_, rfl⟩
  have hB1 : Below w.heap.size w W1 := by rw [hW1]; exact (Below.refl _ _).alloc (Nat.le_refl _) _
  have hb1 : Blk W1 w.heap.size 26 #[.int .i64 pos, .string ⟨name.toArray⟩, .int .i64 type, .slice A cks.length c] := by rw [hW1]; exact heap_alloc_new w _
  have HN := Lib.hid (badName_any name W1)
  have HK : Hid (∀ w2, Below W1.heap.size W1 w2 → Calls Tryd.prog 81 #[.slice A cks.length c, .func (.func 82) #[] #[]] w2 fun e w' => e = .returned (.bool (cks.any fun k => badN k.1)) ∧ Below w2.heap.size w2 w') :=
    Lib.hid fun w2 hB => hasC_any (fun k => badN k.1) A c cks w2 (hc.keep (fun b hb => Nat.lt_of_lt_of_le hb (hB1.trans (hB.mono hB1.size)).size) fun p hp => (hB1.trans (hB.mono hB1.size)).cell hp) fun x _ W _ => badClock_any x W
  obtain ⟨len, hln⟩ : ∃ len, len = cks.length := ⟨_, rfl⟩
  rw [← hln] at hP HK hlc hW1 hb1 ⊢
  have HT := Lib.hid (hT.below hB1)
  have HB1 := Lib.hid hB1
  have Hb1 := Lib.hid hb1
  have k1 : W1.cell? ⟨w.heap.size, 1, none⟩ = _ := hb1.cell 1
  generalize badN name = b1 at *
  generalize (cks.any fun k => badN k.1) = b2 at *
  clear hln hB1 hb1 hT hc
  have MID : ∀ w2, Below W1.heap.size W1 w2 → Te w2 er ∧ w2.cell? ⟨w.heap.size, 1, none⟩ = some (.string ⟨name.toArray⟩) ∧ w2.cell? ⟨w.heap.size, 2, none⟩ = some (.int .i64 type) ∧ w2.cell? ⟨w.heap.size, 3, none⟩ = some (.slice A len c) := fun w2 h => by
    have hb2 := Hb1.out.below h Hb1.out.lt
    exact ⟨HT.out.below h, hb2.cell 1, hb2.cell 2, hb2.cell 3⟩
  have HM := Lib.hid MID
  clear MID
  cases b1
  · by_cases ht : type ≠ 1 ∧ type ≠ 2
    · have HP := Lib.hid (hP.trans (show _ = (some 1 : Option Nat) by rw [if_neg (by simp), if_pos ht]))
      have q1 : (type == 1) = false := beq_eq_false_iff_ne.2 ht.1
      have q2 : (type == 2) = false := beq_eq_false_iff_ne.2 ht.2
      have r1 : (type != 1) = true := bne_iff_ne.2 ht.1
      have r2 : (type != 2) = true := bne_iff_ne.2 ht.2
      obtain ⟨ht1, ht2⟩ := ht
      clear hP
      subst hW1
      go_enter Tryd.func34, Tryd.ntmps34
      go_wp2_with fail
      refine HN.out.mono ?_
      rintro r w2 ⟨rfl, h2⟩
      obtain ⟨t2, m1, m2, m3⟩ := HM.out w2 h2
      have e1 := t2.shape
      have e8 := t2.name
      have HB2 := Lib.hid (HB1.out.trans (h2.mono HB1.out.size))
      have HK2 := Lib.hid (HK.out w2 h2)
      clear t2 h2
      go_wp2
      all_goals (go_ret; exact ⟨by rw [HP.out]; rfl, HB2.out⟩)
    · rcases (show type = 1 ∨ type = 2 by omega) with rfl | rfl
      · clear ht
        by_cases hk : (loc = false ∧ 0 < len) ∨ 4 < len
        · rcases hk with ⟨rfl, h0⟩ | h4
          · have HP := Lib.hid (hP.trans (show _ = (some 1 : Option Nat) by rw [if_neg (by simp), if_neg (by decide), if_pos (Or.inl ⟨rfl, h0⟩)]))
            have q0 : (0 : Int) < (len : Int) := by omega
            clear hP
            subst hW1
            go_enter Tryd.func34, Tryd.ntmps34
            go_wp2_with fail
            refine HN.out.mono ?_
            rintro r w2 ⟨rfl, h2⟩
            obtain ⟨t2, m1, m2, m3⟩ := HM.out w2 h2
            have e1 := t2.shape
            have e8 := t2.name
            have HB2 := Lib.hid (HB1.out.trans (h2.mono HB1.out.size))
            have HK2 := Lib.hid (HK.out w2 h2)
            clear t2 h2
            go_wp2
            all_goals (go_ret; exact ⟨by rw [HP.out]; rfl, HB2.out⟩)
          · cases loc
            · have HP := Lib.hid (hP.trans (show _ = (some 1 : Option Nat) by rw [if_neg (by simp), if_neg (by decide), if_pos (Or.inr h4)]))
              have q0 : (0 : Int) < (len : Int) := by omega
              clear hP
              subst hW1
              go_enter Tryd.func34, Tryd.ntmps34
              go_wp2_with fail
              refine HN.out.mono ?_
              rintro r w2 ⟨rfl, h2⟩
              obtain ⟨t2, m1, m2, m3⟩ := HM.out w2 h2
              have e1 := t2.shape
              have e8 := t2.name
              have HB2 := Lib.hid (HB1.out.trans (h2.mono HB1.out.size))
              have HK2 := Lib.hid (HK.out w2 h2)
              clear t2 h2
              go_wp2
              all_goals (go_ret; exact ⟨by rw [HP.out]; rfl, HB2.out⟩)
            · have HP := Lib.hid (hP.trans (show _ = (some 1 : Option Nat) by rw [if_neg (by simp), if_neg (by decide), if_pos (Or.inr h4)]))
              have q0 : (4 : Int) < (len : Int) := by omega
              clear hP
              subst hW1
              go_enter Tryd.func34, Tryd.ntmps34
              go_wp2_with fail
              refine HN.out.mono ?_
              rintro r w2 ⟨rfl, h2⟩
              obtain ⟨t2, m1, m2, m3⟩ := HM.out w2 h2
              have e1 := t2.shape
              have e8 := t2.name
              have HB2 := Lib.hid (HB1.out.trans (h2.mono HB1.out.size))
              have HK2 := Lib.hid (HK.out w2 h2)
              clear t2 h2
              go_wp2
              all_goals (go_ret; exact ⟨by rw [HP.out]; rfl, HB2.out⟩)
        · cases b2
          · cases loc
            · have HP := Lib.hid (hP.trans (show _ = (none : Option Nat) by rw [if_neg (by simp), if_neg (by decide), if_neg hk, if_neg (by simp)]))
              have q0 : ¬ (0 : Int) < (len : Int) := fun h => hk (Or.inl ⟨rfl, by omega⟩)
              have q4 : ¬ (4 : Int) < (len : Int) := fun h => hk (Or.inr (by omega))
              clear hP
              subst hW1
              go_enter Tryd.func34, Tryd.ntmps34
              go_wp2_with fail
              refine HN.out.mono ?_
              rintro r w2 ⟨rfl, h2⟩
              obtain ⟨t2, m1, m2, m3⟩ := HM.out w2 h2
              have e1 := t2.shape
              have e8 := t2.name
              have HB2 := Lib.hid (HB1.out.trans (h2.mono HB1.out.size))
              have HK2 := Lib.hid (HK.out w2 h2)
              have HE8 : Hid (∀ w3, Below w2.heap.size w2 w3 → Te w3 er) := Lib.hid fun w3 h => t2.below h
              clear t2 h2
              go_wp2_with fail
              refine HK2.out.mono ?_
              rintro r w3 ⟨rfl, h3⟩
              have e9 := (HE8.out w3 h3).name
              have HB3 := Lib.hid (HB2.out.trans (h3.mono HB2.out.size))
              clear h3 HK2
              go_wp2
              go_ret
              exact ⟨by rw [HP.out]; rfl, HB3.out⟩
            · have HP := Lib.hid (hP.trans (show _ = (none : Option Nat) by rw [if_neg (by simp), if_neg (by decide), if_neg hk, if_neg (by simp)]))
              have q4 : ¬ (4 : Int) < (len : Int) := fun h => hk (Or.inr (by omega))
              clear hP
              subst hW1
              go_enter Tryd.func34, Tryd.ntmps34
              go_wp2_with fail
              refine HN.out.mono ?_
              rintro r w2 ⟨rfl, h2⟩
              obtain ⟨t2, m1, m2, m3⟩ := HM.out w2 h2
              have e1 := t2.shape
              have e8 := t2.name
              have HB2 := Lib.hid (HB1.out.trans (h2.mono HB1.out.size))
              have HK2 := Lib.hid (HK.out w2 h2)
              have HE8 : Hid (∀ w3, Below w2.heap.size w2 w3 → Te w3 er) := Lib.hid fun w3 h => t2.below h
              clear t2 h2
              go_wp2_with fail
              refine HK2.out.mono ?_
              rintro r w3 ⟨rfl, h3⟩
              have e9 := (HE8.out w3 h3).name
              have HB3 := Lib.hid (HB2.out.trans (h3.mono HB2.out.size))
              clear h3 HK2
              go_wp2
              go_ret
              exact ⟨by rw [HP.out]; rfl, HB3.out⟩
          · cases loc
            · have HP := Lib.hid (hP.trans (show _ = (some 8 : Option Nat) by rw [if_neg (by simp), if_neg (by decide), if_neg hk, if_pos rfl]))
              have q0 : ¬ (0 : Int) < (len : Int) := fun h => hk (Or.inl ⟨rfl, by omega⟩)
              have q4 : ¬ (4 : Int) < (len : Int) := fun h => hk (Or.inr (by omega))
              clear hP
              subst hW1
              go_enter Tryd.func34, Tryd.ntmps34
              go_wp2_with fail
              refine HN.out.mono ?_
              rintro r w2 ⟨rfl, h2⟩
              obtain ⟨t2, m1, m2, m3⟩ := HM.out w2 h2
              have e1 := t2.shape
              have e8 := t2.name
              have HB2 := Lib.hid (HB1.out.trans (h2.mono HB1.out.size))
              have HK2 := Lib.hid (HK.out w2 h2)
              have HE8 : Hid (∀ w3, Below w2.heap.size w2 w3 → Te w3 er) := Lib.hid fun w3 h => t2.below h
              clear t2 h2
              go_wp2_with fail
              refine HK2.out.mono ?_
              rintro r w3 ⟨rfl, h3⟩
              have e9 := (HE8.out w3 h3).name
              have HB3 := Lib.hid (HB2.out.trans (h3.mono HB2.out.size))
              clear h3 HK2
              go_wp2
              go_ret
              exact ⟨by rw [HP.out]; rfl, HB3.out⟩
            · have HP := Lib.hid (hP.trans (show _ = (some 8 : Option Nat) by rw [if_neg (by simp), if_neg (by decide), if_neg hk, if_pos rfl]))
              have q4 : ¬ (4 : Int) < (len : Int) := fun h => hk (Or.inr (by omega))
              clear hP
              subst hW1
              go_enter Tryd.func34, Tryd.ntmps34
              go_wp2_with fail
              refine HN.out.mono ?_
              rintro r w2 ⟨rfl, h2⟩
              obtain ⟨t2, m1, m2, m3⟩ := HM.out w2 h2
              have e1 := t2.shape
              have e8 := t2.name
              have HB2 := Lib.hid (HB1.out.trans (h2.mono HB1.out.size))
              have HK2 := Lib.hid (HK.out w2 h2)
              have HE8 : Hid (∀ w3, Below w2.heap.size w2 w3 → Te w3 er) := Lib.hid fun w3 h => t2.below h
              clear t2 h2
              go_wp2_with fail
              refine HK2.out.mono ?_
              rintro r w3 ⟨rfl, h3⟩
              have e9 := (HE8.out w3 h3).name
              have HB3 := Lib.hid (HB2.out.trans (h3.mono HB2.out.size))
              clear h3 HK2
              go_wp2
              go_ret
              exact ⟨by rw [HP.out]; rfl, HB3.out⟩
      · clear ht
        by_cases hk : (loc = false ∧ 0 < len) ∨ 4 < len
        · rcases hk with ⟨rfl, h0⟩ | h4
          · have HP := Lib.hid (hP.trans (show _ = (some 1 : Option Nat) by rw [if_neg (by simp), if_neg (by decide), if_pos (Or.inl ⟨rfl, h0⟩)]))
            have q0 : (0 : Int) < (len : Int) := by omega
            clear hP
            subst hW1
            go_enter Tryd.func34, Tryd.ntmps34
            go_wp2_with fail
            refine HN.out.mono ?_
            rintro r w2 ⟨rfl, h2⟩
            obtain ⟨t2, m1, m2, m3⟩ := HM.out w2 h2
            have e1 := t2.shape
            have e8 := t2.name
            have HB2 := Lib.hid (HB1.out.trans (h2.mono HB1.out.size))
            have HK2 := Lib.hid (HK.out w2 h2)
            clear t2 h2
            go_wp2
            all_goals (go_ret; exact ⟨by rw [HP.out]; rfl, HB2.out⟩)
          · cases loc
            · have HP := Lib.hid (hP.trans (show _ = (some 1 : Option Nat) by rw [if_neg (by simp), if_neg (by decide), if_pos (Or.inr h4)]))
              have q0 : (0 : Int) < (len : Int) := by omega
              clear hP
              subst hW1
              go_enter Tryd.func34, Tryd.ntmps34
              go_wp2_with fail
              refine HN.out.mono ?_
              rintro r w2 ⟨rfl, h2⟩
              obtain ⟨t2, m1, m2, m3⟩ := HM.out w2 h2
              have e1 := t2.shape
              have e8 := t2.name
              have HB2 := Lib.hid (HB1.out.trans (h2.mono HB1.out.size))
              have HK2 := Lib.hid (HK.out w2 h2)
              clear t2 h2
              go_wp2
              all_goals (go_ret; exact ⟨by rw [HP.out]; rfl, HB2.out⟩)
            · have HP := Lib.hid (hP.trans (show _ = (some 1 : Option Nat) by rw [if_neg (by simp), if_neg (by decide), if_pos (Or.inr h4)]))
              have q0 : (4 : Int) < (len : Int) := by omega
              clear hP
              subst hW1
              go_enter Tryd.func34, Tryd.ntmps34
              go_wp2_with fail
              refine HN.out.mono ?_
              rintro r w2 ⟨rfl, h2⟩
              obtain ⟨t2, m1, m2, m3⟩ := HM.out w2 h2
              have e1 := t2.shape
              have e8 := t2.name
              have HB2 := Lib.hid (HB1.out.trans (h2.mono HB1.out.size))
              have HK2 := Lib.hid (HK.out w2 h2)
              clear t2 h2
              go_wp2
              all_goals (go_ret; exact ⟨by rw [HP.out]; rfl, HB2.out⟩)
        · cases b2
          · cases loc
            · have HP := Lib.hid (hP.trans (show _ = (none : Option Nat) by rw [if_neg (by simp), if_neg (by decide), if_neg hk, if_neg (by simp)]))
              have q0 : ¬ (0 : Int) < (len : Int) := fun h => hk (Or.inl ⟨rfl, by omega⟩)
              have q4 : ¬ (4 : Int) < (len : Int) := fun h => hk (Or.inr (by omega))
              clear hP
              subst hW1
              go_enter Tryd.func34, Tryd.ntmps34
              go_wp2_with fail
              refine HN.out.mono ?_
              rintro r w2 ⟨rfl, h2⟩
              obtain ⟨t2, m1, m2, m3⟩ := HM.out w2 h2
              have e1 := t2.shape
              have e8 := t2.name
              have HB2 := Lib.hid (HB1.out.trans (h2.mono HB1.out.size))
              have HK2 := Lib.hid (HK.out w2 h2)
              have HE8 : Hid (∀ w3, Below w2.heap.size w2 w3 → Te w3 er) := Lib.hid fun w3 h => t2.below h
              clear t2 h2
              go_wp2_with fail
              refine HK2.out.mono ?_
              rintro r w3 ⟨rfl, h3⟩
              have e9 := (HE8.out w3 h3).name
              have HB3 := Lib.hid (HB2.out.trans (h3.mono HB2.out.size))
              clear h3 HK2
              go_wp2
              go_ret
              exact ⟨by rw [HP.out]; rfl, HB3.out⟩
            · have HP := Lib.hid (hP.trans (show _ = (none : Option Nat) by rw [if_neg (by simp), if_neg (by decide), if_neg hk, if_neg (by simp)]))
              have q4 : ¬ (4 : Int) < (len : Int) := fun h => hk (Or.inr (by omega))
              clear hP
              subst hW1
              go_enter Tryd.func34, Tryd.ntmps34
              go_wp2_with fail
              refine HN.out.mono ?_
              rintro r w2 ⟨rfl, h2⟩
              obtain ⟨t2, m1, m2, m3⟩ := HM.out w2 h2
              have e1 := t2.shape
              have e8 := t2.name
              have HB2 := Lib.hid (HB1.out.trans (h2.mono HB1.out.size))
              have HK2 := Lib.hid (HK.out w2 h2)
              have HE8 : Hid (∀ w3, Below w2.heap.size w2 w3 → Te w3 er) := Lib.hid fun w3 h => t2.below h
              clear t2 h2
              go_wp2_with fail
              refine HK2.out.mono ?_
              rintro r w3 ⟨rfl, h3⟩
              have e9 := (HE8.out w3 h3).name
              have HB3 := Lib.hid (HB2.out.trans (h3.mono HB2.out.size))
              clear h3 HK2
              go_wp2
              go_ret
              exact ⟨by rw [HP.out]; rfl, HB3.out⟩
          · cases loc
            · have HP := Lib.hid (hP.trans (show _ = (some 8 : Option Nat) by rw [if_neg (by simp), if_neg (by decide), if_neg hk, if_pos rfl]))
              have q0 : ¬ (0 : Int) < (len : Int) := fun h => hk (Or.inl ⟨rfl, by omega⟩)
              have q4 : ¬ (4 : Int) < (len : Int) := fun h => hk (Or.inr (by omega))
              clear hP
              subst hW1
              go_enter Tryd.func34, Tryd.ntmps34
              go_wp2_with fail
              refine HN.out.mono ?_
              rintro r w2 ⟨rfl, h2⟩
              obtain ⟨t2, m1, m2, m3⟩ := HM.out w2 h2
              have e1 := t2.shape
              have e8 := t2.name
              have HB2 := Lib.hid (HB1.out.trans (h2.mono HB1.out.size))
              have HK2 := Lib.hid (HK.out w2 h2)
              have HE8 : Hid (∀ w3, Below w2.heap.size w2 w3 → Te w3 er) := Lib.hid fun w3 h => t2.below h
              clear t2 h2
              go_wp2_with fail
              refine HK2.out.mono ?_
              rintro r w3 ⟨rfl, h3⟩
              have e9 := (HE8.out w3 h3).name
              have HB3 := Lib.hid (HB2.out.trans (h3.mono HB2.out.size))
              clear h3 HK2
              go_wp2
              go_ret
              exact ⟨by rw [HP.out]; rfl, HB3.out⟩
            · have HP := Lib.hid (hP.trans (show _ = (some 8 : Option Nat) by rw [if_neg (by simp), if_neg (by decide), if_neg hk, if_pos rfl]))
              have q4 : ¬ (4 : Int) < (len : Int) := fun h => hk (Or.inr (by omega))
              clear hP
              subst hW1
              go_enter Tryd.func34, Tryd.ntmps34
              go_wp2_with fail
              refine HN.out.mono ?_
              rintro r w2 ⟨rfl, h2⟩
              obtain ⟨t2, m1, m2, m3⟩ := HM.out w2 h2
              have e1 := t2.shape
              have e8 := t2.name
              have HB2 := Lib.hid (HB1.out.trans (h2.mono HB1.out.size))
              have HK2 := Lib.hid (HK.out w2 h2)
              have HE8 : Hid (∀ w3, Below w2.heap.size w2 w3 → Te w3 er) := Lib.hid fun w3 h => t2.below h
              clear t2 h2
              go_wp2_with fail
              refine HK2.out.mono ?_
              rintro r w3 ⟨rfl, h3⟩
              have e9 := (HE8.out w3 h3).name
              have HB3 := Lib.hid (HB2.out.trans (h3.mono HB2.out.size))
              clear h3 HK2
              go_wp2
              go_ret
              exact ⟨by rw [HP.out]; rfl, HB3.out⟩
  · have HP := Lib.hid (hP.trans (show _ = (some 8 : Option Nat) by rw [if_pos rfl]))
    clear hP
    subst hW1
    go_enter Tryd.func34, Tryd.ntmps34
    go_wp2_with fail
    refine HN.out.mono ?_
    rintro r w2 ⟨rfl, h2⟩
    obtain ⟨t2, m1, m2, m3⟩ := HM.out w2 h2
    have e1 := t2.shape
    have e8 := t2.name
    have HB2 := Lib.hid (HB1.out.trans (h2.mono HB1.out.size))
    have HK2 := Lib.hid (HK.out w2 h2)
    clear t2 h2
    go_wp2
    all_goals (go_ret; exact ⟨by rw [HP.out]; rfl, HB2.out⟩)
end Go.Proofs.YtacmibkcnmaagaaDoor
