/-
  The walk of tree's partError. Conditions: the theorem's own premises.
-/
import Derived.Test.YtacmibkcnmaagaaDoorQTvD
import Derived.Deep.RegionLaw
namespace Go.Proofs.YtacmibkcnmaagaaDoor
open Go.RowKit Go.Lib
attribute [local go_sem] Oper.semAt_some

/-- A value that was never made decides no guard. -/
theorem undef_guard : Go.yielded.match_1 (fun _ => Option Bool) (some undef) (fun b => some b) (fun _ => none) = none := rfl
attribute [local go_sem] undef_guard
/-- A call of a Go function, as one step of a region that draws; its guard is met. -/
theorem step_call_of {P : Program} {ops : Array Oper} {o : Oper} {a : Act} {w : World} {K : Act → World → Prop} {Q : Exit → Act → World → Prop} {E : Prop} {f : FuncId} {args : Array Value} (hw : Region.wanted o (yielded ops a.tmps) = true)
    (he : (execOp a.eval o).run P w = .ok (.enter f args) w) (h : Calls P f args w fun e w'' => ∃ v, e = .returned v ∧ K (a.put o.dst v) w'') :
    if Region.wanted o (yielded ops a.tmps) = true then Oper.wp P o a w K Q else E := by
  rw [if_pos hw]
  unfold Oper.wp
  rw [he]
  refine Calls.mono h ?_
  rintro e w'' ⟨v, rfl, hK⟩
  exact hK
set_option maxRecDepth 100000 in
set_option maxHeartbeats 20000000 in
theorem partError_any (e : Ex) (w : World) (er : Nat → Addr) (hT : Te w er) (hl : e.l.length ≤ 9223372036854775807) : Calls Tryd.prog 38 #[e.val] w fun r w' => r = .returned (erO er (partE e)) ∧ Below w.heap.size w w' := by
  have HV0 : ∀ W, Calls Tryd.prog 87 #[e.val] W fun r w' => r = .returned (.bool (vN e.op e.n)) ∧ Below W.heap.size W w' := fun W => validN_any e W
  obtain ⟨op, pos, n, name, A, c, l⟩ := e
  have hP : partE (.mk op pos n name A c l) = if (l.length : Int) ≠ opN op ∨ vN op n = false ∨ (name ≠ [] ∧ hasN op = false) then some 1 else if hasN op = true ∧ badN name = true then some 8 else none := rfl
  unfold Ex.val at HV0 ⊢
  dsimp only [Ex.op, Ex.pos, Ex.n, Ex.name, Ex.A, Ex.c, Ex.l] at HV0 hl ⊢
  obtain ⟨len, hln⟩ : ∃ len, len = l.length := ⟨_, rfl⟩
  rw [← hln] at HV0 hP hl ⊢
  have HO0 := Lib.hid (fun W => operands_any0 op W)
  have HH0 := Lib.hid (fun W => hasName_any op W)
  have HB0 := Lib.hid (fun W => badName_any name W)
  have HV := Lib.hid HV0
  generalize vN op n = b1 at *
  generalize opN op = z at *
  generalize hasN op = b2 at *
  generalize badN name = b3 at *
  clear HV0
  obtain ⟨W1, hW1⟩ : ∃ W1, W1 = w.alloc (.cells #[.int .i64 op, .int .i64 pos, .int .i64 n, .string ⟨name.toArray⟩, .slice A len c] 34) := ⟨_, rfl⟩
  have hB1 : Below w.heap.size w W1 := by rw [hW1]; exact (Below.refl _ _).alloc (Nat.le_refl _) _
  have hb1 : Blk W1 w.heap.size 34 #[.int .i64 op, .int .i64 pos, .int .i64 n, .string ⟨name.toArray⟩, .slice A len c] := by rw [hW1]; exact heap_alloc_new w _
  have HT := Lib.hid (hT.below hB1)
  have HB1 := Lib.hid hB1
  have Hb1 := Lib.hid hb1
  obtain ⟨⟨k0, k1, k2, k3, k4⟩, -⟩ := blkx hb1
  have e1 := HT.out.shape
  have e8 := HT.out.name
  clear hln hB1 hb1 hT
  by_cases h1 : (len : Int) = z
  · subst h1
    cases b1
    · have HP : Hid (partE (.mk op pos n name A c l) = some 1) := Lib.hid (by rw [hP, if_pos (Or.inr (Or.inl rfl))])
      clear hP
      subst hW1
      go_enter Tryd.func38, Tryd.ntmps38
      go_wp2_with fail
      first | (go_region_law (first | (refine step_call_of (f := 86) (args := #[.int .i64 op]) ?_ ?_ ?_; (solve | rfl | go_simp); (solve | go_simp); refine (HO0.out _).mono ?_; rintro r w' ⟨rfl, rfl⟩; refine ⟨_, rfl, ?_⟩) | (refine step_call_of (f := 87) (args := #[.agg #[.int .i64 op, .int .i64 pos, .int .i64 n, .string ⟨name.toArray⟩, .slice A len c]]) ?_ ?_ ?_; (solve | rfl | go_simp); (solve | go_simp); refine (HV.out _).mono ?_; rintro r w2 ⟨rfl, h2⟩; refine ⟨_, rfl, ?_⟩; have HW2 : Hid (Below (w.alloc (.cells #[.int .i64 op, .int .i64 pos, .int .i64 n, .string ⟨name.toArray⟩, .slice A len c] 34)).heap.size (w.alloc (.cells #[.int .i64 op, .int .i64 pos, .int .i64 n, .string ⟨name.toArray⟩, .slice A len c] 34)) w2) := Lib.hid (((Below.refl _ _).drew).trans h2); have hb2 := Hb1.out.below HW2.out Hb1.out.lt; obtain ⟨⟨m0, m1, m2, m3, m4⟩, -⟩ := blkx hb2; have f1 := (HT.out.below HW2.out).shape; have f8 := (HT.out.below HW2.out).name) | (refine step_call_of (f := 88) (args := #[.int .i64 op]) ?_ ?_ ?_; (solve | rfl | go_simp); (solve | go_simp); refine (HH0.out _).mono ?_; rintro r w' ⟨rfl, rfl⟩; refine ⟨_, rfl, ?_⟩))) | fail
      all_goals (
        clear HT Hb1
        go_wp2
        go_ret
        exact ⟨by rw [HP.out]; rfl, HB1.out.trans (HW2.out.mono (by simp))⟩)
    · by_cases hn : name = []
      · subst hn
        cases b2
        · have HP : Hid (partE (.mk op pos n [] A c l) = none) := Lib.hid (by rw [hP, if_neg (by simp), if_neg (by simp)])
          clear hP
          subst hW1
          go_enter Tryd.func38, Tryd.ntmps38
          go_wp2_with fail
          first | (go_region_law (first | (refine step_call_of (f := 86) (args := #[.int .i64 op]) ?_ ?_ ?_; (solve | rfl | go_simp); (solve | go_simp); refine (HO0.out _).mono ?_; rintro r w' ⟨rfl, rfl⟩; refine ⟨_, rfl, ?_⟩) | (refine step_call_of (f := 87) (args := #[.agg #[.int .i64 op, .int .i64 pos, .int .i64 n, .string { data := #[] }, .slice A len c]]) ?_ ?_ ?_; (solve | rfl | go_simp); (solve | go_simp); refine (HV.out _).mono ?_; rintro r w2 ⟨rfl, h2⟩; refine ⟨_, rfl, ?_⟩; have HW2 : Hid (Below (w.alloc (.cells #[.int .i64 op, .int .i64 pos, .int .i64 n, .string { data := #[] }, .slice A len c] 34)).heap.size (w.alloc (.cells #[.int .i64 op, .int .i64 pos, .int .i64 n, .string { data := #[] }, .slice A len c] 34)) w2) := Lib.hid (((Below.refl _ _).drew).trans h2); have hb2 := Hb1.out.below HW2.out Hb1.out.lt; obtain ⟨⟨m0, m1, m2, m3, m4⟩, -⟩ := blkx hb2; have f1 := (HT.out.below HW2.out).shape; have f8 := (HT.out.below HW2.out).name) | (refine step_call_of (f := 88) (args := #[.int .i64 op]) ?_ ?_ ?_; (solve | rfl | go_simp); (solve | go_simp); refine (HH0.out _).mono ?_; rintro r w' ⟨rfl, rfl⟩; refine ⟨_, rfl, ?_⟩))) | fail
          all_goals (
            go_wp2_with fail
            refine (HH0.out _).mono ?_
            rintro r w' ⟨rfl, rfl⟩
            go_wp2
            go_ret
            exact ⟨by rw [HP.out]; rfl, HB1.out.trans (HW2.out.mono (by simp))⟩)
        · cases b3
          · have HP : Hid (partE (.mk op pos n [] A c l) = none) := Lib.hid (by rw [hP, if_neg (by simp), if_neg (by simp)])
            clear hP
            subst hW1
            go_enter Tryd.func38, Tryd.ntmps38
            go_wp2_with fail
            first | (go_region_law (first | (refine step_call_of (f := 86) (args := #[.int .i64 op]) ?_ ?_ ?_; (solve | rfl | go_simp); (solve | go_simp); refine (HO0.out _).mono ?_; rintro r w' ⟨rfl, rfl⟩; refine ⟨_, rfl, ?_⟩) | (refine step_call_of (f := 87) (args := #[.agg #[.int .i64 op, .int .i64 pos, .int .i64 n, .string { data := #[] }, .slice A len c]]) ?_ ?_ ?_; (solve | rfl | go_simp); (solve | go_simp); refine (HV.out _).mono ?_; rintro r w2 ⟨rfl, h2⟩; refine ⟨_, rfl, ?_⟩; have HW2 : Hid (Below (w.alloc (.cells #[.int .i64 op, .int .i64 pos, .int .i64 n, .string { data := #[] }, .slice A len c] 34)).heap.size (w.alloc (.cells #[.int .i64 op, .int .i64 pos, .int .i64 n, .string { data := #[] }, .slice A len c] 34)) w2) := Lib.hid (((Below.refl _ _).drew).trans h2); have hb2 := Hb1.out.below HW2.out Hb1.out.lt; obtain ⟨⟨m0, m1, m2, m3, m4⟩, -⟩ := blkx hb2; have f1 := (HT.out.below HW2.out).shape; have f8 := (HT.out.below HW2.out).name) | (refine step_call_of (f := 88) (args := #[.int .i64 op]) ?_ ?_ ?_; (solve | rfl | go_simp); (solve | go_simp); refine (HH0.out _).mono ?_; rintro r w' ⟨rfl, rfl⟩; refine ⟨_, rfl, ?_⟩))) | fail
            all_goals (
              go_wp2_with fail
              refine (HH0.out _).mono ?_
              rintro r w' ⟨rfl, rfl⟩
              go_wp2_with fail
              refine (HB0.out _).mono ?_
              rintro r w3 ⟨rfl, h3⟩
              have HW3 := Lib.hid (HW2.out.trans (h3.mono HW2.out.size))
              have g8 := (HT.out.below HW3.out).name
              clear h3
              go_wp2
              go_ret
              exact ⟨by rw [HP.out]; rfl, HB1.out.trans (HW3.out.mono (by simp))⟩)
          · have HP : Hid (partE (.mk op pos n [] A c l) = some 8) := Lib.hid (by rw [hP, if_neg (by simp), if_pos ⟨rfl, rfl⟩])
            clear hP
            subst hW1
            go_enter Tryd.func38, Tryd.ntmps38
            go_wp2_with fail
            first | (go_region_law (first | (refine step_call_of (f := 86) (args := #[.int .i64 op]) ?_ ?_ ?_; (solve | rfl | go_simp); (solve | go_simp); refine (HO0.out _).mono ?_; rintro r w' ⟨rfl, rfl⟩; refine ⟨_, rfl, ?_⟩) | (refine step_call_of (f := 87) (args := #[.agg #[.int .i64 op, .int .i64 pos, .int .i64 n, .string { data := #[] }, .slice A len c]]) ?_ ?_ ?_; (solve | rfl | go_simp); (solve | go_simp); refine (HV.out _).mono ?_; rintro r w2 ⟨rfl, h2⟩; refine ⟨_, rfl, ?_⟩; have HW2 : Hid (Below (w.alloc (.cells #[.int .i64 op, .int .i64 pos, .int .i64 n, .string { data := #[] }, .slice A len c] 34)).heap.size (w.alloc (.cells #[.int .i64 op, .int .i64 pos, .int .i64 n, .string { data := #[] }, .slice A len c] 34)) w2) := Lib.hid (((Below.refl _ _).drew).trans h2); have hb2 := Hb1.out.below HW2.out Hb1.out.lt; obtain ⟨⟨m0, m1, m2, m3, m4⟩, -⟩ := blkx hb2; have f1 := (HT.out.below HW2.out).shape; have f8 := (HT.out.below HW2.out).name) | (refine step_call_of (f := 88) (args := #[.int .i64 op]) ?_ ?_ ?_; (solve | rfl | go_simp); (solve | go_simp); refine (HH0.out _).mono ?_; rintro r w' ⟨rfl, rfl⟩; refine ⟨_, rfl, ?_⟩))) | fail
            all_goals (
              go_wp2_with fail
              refine (HH0.out _).mono ?_
              rintro r w' ⟨rfl, rfl⟩
              go_wp2_with fail
              refine (HB0.out _).mono ?_
              rintro r w3 ⟨rfl, h3⟩
              have HW3 := Lib.hid (HW2.out.trans (h3.mono HW2.out.size))
              have g8 := (HT.out.below HW3.out).name
              clear h3
              go_wp2
              go_ret
              exact ⟨by rw [HP.out]; rfl, HB1.out.trans (HW3.out.mono (by simp))⟩)
      · have hne : name.isEmpty = false := by simpa using hn
        have Hn := Lib.hid hn
        clear hn
        cases b2
        · have HP : Hid (partE (.mk op pos n name A c l) = some 1) := Lib.hid (by rw [hP, if_pos (Or.inr (Or.inr ⟨Hn.out, rfl⟩))])
          clear hP
          subst hW1
          go_enter Tryd.func38, Tryd.ntmps38
          go_wp2_with fail
          first | (go_region_law (first | (refine step_call_of (f := 86) (args := #[.int .i64 op]) ?_ ?_ ?_; (solve | rfl | go_simp); (solve | go_simp); refine (HO0.out _).mono ?_; rintro r w' ⟨rfl, rfl⟩; refine ⟨_, rfl, ?_⟩) | (refine step_call_of (f := 87) (args := #[.agg #[.int .i64 op, .int .i64 pos, .int .i64 n, .string ⟨name.toArray⟩, .slice A len c]]) ?_ ?_ ?_; (solve | rfl | go_simp); (solve | go_simp); refine (HV.out _).mono ?_; rintro r w2 ⟨rfl, h2⟩; refine ⟨_, rfl, ?_⟩; have HW2 : Hid (Below (w.alloc (.cells #[.int .i64 op, .int .i64 pos, .int .i64 n, .string ⟨name.toArray⟩, .slice A len c] 34)).heap.size (w.alloc (.cells #[.int .i64 op, .int .i64 pos, .int .i64 n, .string ⟨name.toArray⟩, .slice A len c] 34)) w2) := Lib.hid (((Below.refl _ _).drew).trans h2); have hb2 := Hb1.out.below HW2.out Hb1.out.lt; obtain ⟨⟨m0, m1, m2, m3, m4⟩, -⟩ := blkx hb2; have f1 := (HT.out.below HW2.out).shape; have f8 := (HT.out.below HW2.out).name) | (refine step_call_of (f := 88) (args := #[.int .i64 op]) ?_ ?_ ?_; (solve | rfl | go_simp); (solve | go_simp); refine (HH0.out _).mono ?_; rintro r w' ⟨rfl, rfl⟩; refine ⟨_, rfl, ?_⟩))) | fail
          all_goals (
            go_wp2
            go_ret
            exact ⟨by rw [HP.out]; rfl, HB1.out.trans (HW2.out.mono (by simp))⟩)
        · cases b3
          · have HP : Hid (partE (.mk op pos n name A c l) = none) := Lib.hid (by rw [hP, if_neg (by simp), if_neg (by simp)])
            clear hP
            subst hW1
            go_enter Tryd.func38, Tryd.ntmps38
            go_wp2_with fail
            first | (go_region_law (first | (refine step_call_of (f := 86) (args := #[.int .i64 op]) ?_ ?_ ?_; (solve | rfl | go_simp); (solve | go_simp); refine (HO0.out _).mono ?_; rintro r w' ⟨rfl, rfl⟩; refine ⟨_, rfl, ?_⟩) | (refine step_call_of (f := 87) (args := #[.agg #[.int .i64 op, .int .i64 pos, .int .i64 n, .string ⟨name.toArray⟩, .slice A len c]]) ?_ ?_ ?_; (solve | rfl | go_simp); (solve | go_simp); refine (HV.out _).mono ?_; rintro r w2 ⟨rfl, h2⟩; refine ⟨_, rfl, ?_⟩; have HW2 : Hid (Below (w.alloc (.cells #[.int .i64 op, .int .i64 pos, .int .i64 n, .string ⟨name.toArray⟩, .slice A len c] 34)).heap.size (w.alloc (.cells #[.int .i64 op, .int .i64 pos, .int .i64 n, .string ⟨name.toArray⟩, .slice A len c] 34)) w2) := Lib.hid (((Below.refl _ _).drew).trans h2); have hb2 := Hb1.out.below HW2.out Hb1.out.lt; obtain ⟨⟨m0, m1, m2, m3, m4⟩, -⟩ := blkx hb2; have f1 := (HT.out.below HW2.out).shape; have f8 := (HT.out.below HW2.out).name) | (refine step_call_of (f := 88) (args := #[.int .i64 op]) ?_ ?_ ?_; (solve | rfl | go_simp); (solve | go_simp); refine (HH0.out _).mono ?_; rintro r w' ⟨rfl, rfl⟩; refine ⟨_, rfl, ?_⟩))) | fail
            all_goals (
              go_wp2_with fail
              refine (HH0.out _).mono ?_
              rintro r w' ⟨rfl, rfl⟩
              go_wp2_with fail
              refine (HB0.out _).mono ?_
              rintro r w3 ⟨rfl, h3⟩
              have HW3 := Lib.hid (HW2.out.trans (h3.mono HW2.out.size))
              have g8 := (HT.out.below HW3.out).name
              clear h3
              go_wp2
              go_ret
              exact ⟨by rw [HP.out]; rfl, HB1.out.trans (HW3.out.mono (by simp))⟩)
          · have HP : Hid (partE (.mk op pos n name A c l) = some 8) := Lib.hid (by rw [hP, if_neg (by simp), if_pos ⟨rfl, rfl⟩])
            clear hP
            subst hW1
            go_enter Tryd.func38, Tryd.ntmps38
            go_wp2_with fail
            first | (go_region_law (first | (refine step_call_of (f := 86) (args := #[.int .i64 op]) ?_ ?_ ?_; (solve | rfl | go_simp); (solve | go_simp); refine (HO0.out _).mono ?_; rintro r w' ⟨rfl, rfl⟩; refine ⟨_, rfl, ?_⟩) | (refine step_call_of (f := 87) (args := #[.agg #[.int .i64 op, .int .i64 pos, .int .i64 n, .string ⟨name.toArray⟩, .slice A len c]]) ?_ ?_ ?_; (solve | rfl | go_simp); (solve | go_simp); refine (HV.out _).mono ?_; rintro r w2 ⟨rfl, h2⟩; refine ⟨_, rfl, ?_⟩; have HW2 : Hid (Below (w.alloc (.cells #[.int .i64 op, .int .i64 pos, .int .i64 n, .string ⟨name.toArray⟩, .slice A len c] 34)).heap.size (w.alloc (.cells #[.int .i64 op, .int .i64 pos, .int .i64 n, .string ⟨name.toArray⟩, .slice A len c] 34)) w2) := Lib.hid (((Below.refl _ _).drew).trans h2); have hb2 := Hb1.out.below HW2.out Hb1.out.lt; obtain ⟨⟨m0, m1, m2, m3, m4⟩, -⟩ := blkx hb2; have f1 := (HT.out.below HW2.out).shape; have f8 := (HT.out.below HW2.out).name) | (refine step_call_of (f := 88) (args := #[.int .i64 op]) ?_ ?_ ?_; (solve | rfl | go_simp); (solve | go_simp); refine (HH0.out _).mono ?_; rintro r w' ⟨rfl, rfl⟩; refine ⟨_, rfl, ?_⟩))) | fail
            all_goals (
              go_wp2_with fail
              refine (HH0.out _).mono ?_
              rintro r w' ⟨rfl, rfl⟩
              go_wp2_with fail
              refine (HB0.out _).mono ?_
              rintro r w3 ⟨rfl, h3⟩
              have HW3 := Lib.hid (HW2.out.trans (h3.mono HW2.out.size))
              have g8 := (HT.out.below HW3.out).name
              clear h3
              go_wp2
              go_ret
              exact ⟨by rw [HP.out]; rfl, HB1.out.trans (HW3.out.mono (by simp))⟩)
  · have HP : Hid (partE (.mk op pos n name A c l) = some 1) := Lib.hid (by rw [hP, if_pos (Or.inl h1)])
    have hq : ((len : Int) == z) = false := beq_eq_false_iff_ne.2 h1
    have hq2 : ((len : Int) != z) = true := bne_iff_ne.2 h1
    clear hP
    subst hW1
    go_enter Tryd.func38, Tryd.ntmps38
    go_wp2_with fail
    first | (go_region_law (first | (refine step_call_of (f := 86) (args := #[.int .i64 op]) ?_ ?_ ?_; (solve | rfl | go_simp); (solve | go_simp); refine (HO0.out _).mono ?_; rintro r w' ⟨rfl, rfl⟩; refine ⟨_, rfl, ?_⟩) | (refine step_call_of (f := 87) (args := #[.agg #[.int .i64 op, .int .i64 pos, .int .i64 n, .string ⟨name.toArray⟩, .slice A len c]]) ?_ ?_ ?_; (solve | rfl | go_simp); (solve | go_simp); refine (HV.out _).mono ?_; rintro r w2 ⟨rfl, h2⟩; refine ⟨_, rfl, ?_⟩; have HW2 : Hid (Below (w.alloc (.cells #[.int .i64 op, .int .i64 pos, .int .i64 n, .string ⟨name.toArray⟩, .slice A len c] 34)).heap.size (w.alloc (.cells #[.int .i64 op, .int .i64 pos, .int .i64 n, .string ⟨name.toArray⟩, .slice A len c] 34)) w2) := Lib.hid (((Below.refl _ _).drew).trans h2); have hb2 := Hb1.out.below HW2.out Hb1.out.lt; obtain ⟨⟨m0, m1, m2, m3, m4⟩, -⟩ := blkx hb2; have f1 := (HT.out.below HW2.out).shape; have f8 := (HT.out.below HW2.out).name) | (refine step_call_of (f := 88) (args := #[.int .i64 op]) ?_ ?_ ?_; (solve | rfl | go_simp); (solve | go_simp); refine (HH0.out _).mono ?_; rintro r w' ⟨rfl, rfl⟩; refine ⟨_, rfl, ?_⟩))) | fail
    all_goals (
      go_wp2
      go_ret
      exact ⟨by rw [HP.out]; rfl, HB1.out.drew⟩)
end Go.Proofs.YtacmibkcnmaagaaDoor
