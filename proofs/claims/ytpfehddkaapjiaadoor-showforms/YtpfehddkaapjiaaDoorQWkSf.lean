/-
  The walk of ShowForms. Conditions: none.
-/
import Derived.Test.YtpfehddkaapjiaaDoorQSwH
import Derived.Test.YtpfehddkaapjiaaDoorQSwG
namespace Go.Proofs.YtpfehddkaapjiaaDoor
open Go.RowKit Go.Lib Go.Shelf
attribute [local go_sem] Oper.semAt_some

/-- The statement's two variables. -/
abbrev va : Ex := .mk 3 0 0 [97] none 0 []
abbrev vb : Ex := .mk 2 0 1 [] none 0 []
/-- Its signs. -/
def sgs : List (List UInt8) := [[43], [45], [42], [47], [109, 111, 100], [97, 110, 100], [111, 114], [120, 111, 114], [61], [60, 62], [60], [60, 61], [62], [62, 61]]
/-- Its memory. -/
structure SfI (w W : World) (k : Nat) : Prop where
  bel : Below w.heap.size w W
  a : Blk W k 34 #[.int .i64 3, .int .i64 0, .int .i64 0, .string { data := #[97] }, .slice none 0 0]
  b : Blk W (k + 1) 34 #[.int .i64 2, .int .i64 0, .int .i64 1, .string { data := #[] }, .slice none 0 0]
  s : Blk W (k + 1 + 1) 9 #[.string { data := #[43] }, .string { data := #[45] }, .string { data := #[42] }, .string { data := #[47] }, .string { data := #[109, 111, 100] }, .string { data := #[97, 110, 100] }, .string { data := #[111, 114] }, .string { data := #[120, 111, 114] }, .string { data := #[61] }, .string { data := #[60, 62] }, .string { data := #[60] }, .string { data := #[60, 61] }, .string { data := #[62] }, .string { data := #[62, 61] }]
  t : Tbs W
theorem SfI.below {w W W' : World} {k : Nat} (h : SfI w W k) (hB : Below W.heap.size W W') : SfI w W' k :=
  ⟨h.bel.trans (hB.mono h.bel.size), h.a.below hB h.a.lt, h.b.below hB h.b.lt, h.s.below hB h.s.lt, h.t.below hB⟩
theorem SfI.five {w W : World} {k : Nat} (h : SfI w W k) :
    (W.cell? ⟨k, 0, none⟩ = some (.int .i64 3) ∧ W.cell? ⟨k, 1, none⟩ = some (.int .i64 0) ∧ W.cell? ⟨k, 2, none⟩ = some (.int .i64 0) ∧ W.cell? ⟨k, 3, none⟩ = some (.string { data := #[97] }) ∧ W.cell? ⟨k, 4, none⟩ = some (.slice none 0 0)) ∧
    (W.cell? ⟨k + 1, 0, none⟩ = some (.int .i64 2) ∧ W.cell? ⟨k + 1, 1, none⟩ = some (.int .i64 0) ∧ W.cell? ⟨k + 1, 2, none⟩ = some (.int .i64 1) ∧ W.cell? ⟨k + 1, 3, none⟩ = some (.string { data := #[] }) ∧ W.cell? ⟨k + 1, 4, none⟩ = some (.slice none 0 0)) :=
  ⟨⟨h.a.cell 0, h.a.cell 1, h.a.cell 2, h.a.cell 3, h.a.cell 4⟩, h.b.cell 0, h.b.cell 1, h.b.cell 2, h.b.cell 3, h.b.cell 4⟩
theorem bare_all {W : World} {K : Nat → Prop} {l : List Ex} (h : ∀ x ∈ l, x = va ∨ x = vb) : ∀ x ∈ l, x.Lies W K := fun x hx => by
  rcases h x hx with rfl | rfl <;> exact sl_bare _ _ _ _ _ _
theorem sf_two : ∀ i : Fin 14, (Ex.mk (6 + (i.1 : Int)) 0 0 [] none 0 [va, vb]).shw = [97, 32] ++ sgs[i.1]'i.2 ++ [32, 116, 114, 117, 101] := by decide +kernel

theorem sg_cell : ∀ i : Fin 14, (#[.string { data := #[43] }, .string { data := #[45] }, .string { data := #[42] }, .string { data := #[47] }, .string { data := #[109, 111, 100] }, .string { data := #[97, 110, 100] }, .string { data := #[111, 114] }, .string { data := #[120, 111, 114] }, .string { data := #[61] }, .string { data := #[60, 62] }, .string { data := #[60] }, .string { data := #[60, 61] }, .string { data := #[62] }, .string { data := #[62, 61] }] : Array Value)[i.1]? = some (.string ⟨(sgs[i.1]'i.2).toArray⟩)
  | ⟨0, _⟩ | ⟨1, _⟩ | ⟨2, _⟩ | ⟨3, _⟩ | ⟨4, _⟩ | ⟨5, _⟩ | ⟨6, _⟩ | ⟨7, _⟩ | ⟨8, _⟩ | ⟨9, _⟩ | ⟨10, _⟩ | ⟨11, _⟩ | ⟨12, _⟩ | ⟨13, _⟩ => rfl
set_option maxRecDepth 100000 in
set_option maxHeartbeats 2000000 in
theorem showForms_run (a0 a1 : Int) (w : World) (_ : (Lit.int .i64 a0).wf = true) (hw1 : (Lit.int .i64 a1).wf = true) (ht : Tbs w) : Calls Tryd.prog 8 #[.int .i64 a0, .int .i64 a1] w (RetYes w) := by
  have HF := Lib.hid (first8_any w ht)
  have HT := Lib.hid ht
  have HN := Lib.hid (fun W => number_any a0 14 W (by omega) (by omega))
  obtain ⟨i, hi⟩ : ∃ i : Nat, a0 % 14 = (i : Int) := ⟨(a0 % 14).toNat, by omega⟩
  have hi2 : i < 14 := by omega
  rw [hi] at HN
  clear hi ht
  have hr : -9223372036854775808 ≤ a1 ∧ a1 ≤ 9223372036854775807 := by have h := hw1; simp [Lit.wf] at h; exact h
  obtain ⟨n, hn⟩ : ∃ n : Nat, (if a1 < 0 then -(a1 + 1) else a1) = (n : Int) := ⟨(if a1 < 0 then -(a1 + 1) else a1).toNat, by split <;> omega⟩
  have hn2 : n ≤ 9223372036854775807 := by split at hn <;> omega
--BODY
  obtain ⟨S, hS⟩ : ∃ S : List UInt8, S = sgs[i]'hi2 := ⟨_, rfl⟩
  have HSl : Hid (S.length ≤ 3) := Lib.hid (by rw [hS]; exact (by decide : ∀ i : Fin 14, (sgs[i.1]'i.2).length ≤ 3) ⟨i, hi2⟩)
  obtain ⟨X, hX⟩ : ∃ X : ByteArray, X = ⟨([97, 32] ++ sgs[i]'hi2 ++ [32, 116, 114, 117, 101]).toArray⟩ := ⟨_, rfl⟩
  have HX := Lib.hid hX
  have HS := Lib.hid hS
  obtain ⟨Y, hY⟩ : ∃ Y : ByteArray, Y = ⟨(sgs[i]'hi2).toArray⟩ := ⟨_, rfl⟩
  have HYz : Hid (Y.size ≤ 3) := Lib.hid (by rw [hY, ← hS]; exact HSl.out)
  have HY := Lib.hid hY
  have HX2 : Hid (X = ({ data := #[97, 32] } : ByteArray) ++ Y ++ { data := #[32, 116, 114, 117, 101] }) := Lib.hid (by
    rw [hX, hY]
    apply ByteArray.ext
    simp [ByteArray.data_append])
  clear hX hS hY
  go_enter Tryd.func8, Tryd.ntmps8
  go_wp2_with fail
  refine HF.out.mono ?_
  rintro e w1 ⟨rfl, hB⟩
  clear HF
  by_cases hneg : a1 < 0
  · rw [if_pos hneg] at hn
    have hw : IntKind.i64.wrap (a1 + 1) = a1 + 1 := by rw [IntKind.wrap_i64]; omega
    have hw3 : IntKind.i64.wrap (-(a1 + 1)) = -(a1 + 1) := by rw [IntKind.wrap_i64]; omega
    go_wp2_with fail
    obtain ⟨W, hW⟩ : ∃ W, W = ((w1.alloc (.cells #[.int .i64 3, .int .i64 0, .int .i64 0, .string { data := #[97] }, .slice none 0 0] 34)).alloc (.cells #[.int .i64 2, .int .i64 0, .int .i64 1, .string { data := #[] }, .slice none 0 0] 34)).alloc (.cells #[.string { data := #[43] }, .string { data := #[45] }, .string { data := #[42] }, .string { data := #[47] }, .string { data := #[109, 111, 100] }, .string { data := #[97, 110, 100] }, .string { data := #[111, 114] }, .string { data := #[120, 111, 114] }, .string { data := #[61] }, .string { data := #[60, 62] }, .string { data := #[60] }, .string { data := #[60, 61] }, .string { data := #[62] }, .string { data := #[62, 61] }] 9) := ⟨_, rfl⟩
    have HI : Hid (SfI w W w1.heap.size) := Lib.hid (by
      have hz := hB.size
      rw [hW]
      exact ⟨((hB.alloc (by omega) _).alloc (by simp; omega) _).alloc (by simp; omega) _, Blk.alloc (Blk.alloc (heap_alloc_new w1 _) _) _, Blk.alloc (blkn (by simp)) _, blkn (by simp), (((HT.out.below hB).alloc _).alloc _).alloc _⟩)
    rw [← hW]
    clear hW hB HT
    refine (HN.out _).mono ?_
    rintro e w1' ⟨rfl, rfl⟩
    obtain ⟨⟨k0, k1, k2, k3, k4⟩, m0, m1, m2, m3, m4⟩ := HI.out.five
    have HC1 : Hid (Calls Tryd.prog 32 #[.agg #[.int .i64 (6 + (i : Int)), .int .i64 0, .int .i64 0, .string { data := #[] }, .slice (some ⟨W.heap.size, 0, none⟩) 2 2]] (W.alloc (.cells #[.int .i64 3, .int .i64 0, .int .i64 0, .string { data := #[97] }, .slice none 0 0, .int .i64 2, .int .i64 0, .int .i64 1, .string { data := #[] }, .slice none 0 0] 34)) fun r w' => r = .returned (.string X) ∧ Below W.heap.size W w') := Lib.hid (by
      rw [HX.out]
      exact show_at W (6 + (i : Int)) 0 [] [va, vb] _ HI.out.t (by simp) (bare_all (by simp)) rfl (sf_two ⟨i, hi2⟩) (by simp) (by rw [← HS.out]; have := HSl.out; simp only [List.length_append, List.length_cons, List.length_nil]; omega))
    go_wp2_with fail
    refine HC1.out.mono ?_
    rintro e W1 ⟨rfl, h1⟩
    have HI1 := Lib.hid (HI.out.below h1)
    clear h1 HC1 HI k0 k1 k2 k3 k4 m0 m1 m2 m3 m4
    obtain ⟨⟨k0, k1, k2, k3, k4⟩, m0, m1, m2, m3, m4⟩ := HI1.out.five
    have HC2 : Hid (Calls Tryd.prog 32 #[.agg #[.int .i64 20, .int .i64 0, .int .i64 0, .string { data := #[] }, .slice (some ⟨W1.heap.size, 0, none⟩) 3 3]] (W1.alloc (.cells #[.int .i64 2, .int .i64 0, .int .i64 1, .string { data := #[] }, .slice none 0 0, .int .i64 3, .int .i64 0, .int .i64 0, .string { data := #[97] }, .slice none 0 0, .int .i64 3, .int .i64 0, .int .i64 0, .string { data := #[97] }, .slice none 0 0] 34)) fun r w' => r = .returned (.string { data := #[105, 102, 32, 116, 114, 117, 101, 32, 116, 104, 101, 110, 32, 97, 32, 101, 108, 115, 101, 32, 97] }) ∧ Below W1.heap.size W1 w') := Lib.hid (show_at W1 20 0 [] [vb, va, va] [105, 102, 32, 116, 114, 117, 101, 32, 116, 104, 101, 110, 32, 97, 32, 101, 108, 115, 101, 32, 97] HI1.out.t (by simp) (bare_all (by simp)) rfl (by decide +kernel) (by simp) (by simp))
    go_wp2_with fail
    refine HC2.out.mono ?_
    rintro e W2 ⟨rfl, h2⟩
    have HI2 := Lib.hid (HI1.out.below h2)
    clear h2 HC2 HI1 k0 k1 k2 k3 k4 m0 m1 m2 m3 m4
    obtain ⟨⟨k0, k1, k2, k3, k4⟩, m0, m1, m2, m3, m4⟩ := HI2.out.five
    have HC3 : Hid (Calls Tryd.prog 32 #[.agg #[.int .i64 24, .int .i64 0, .int .i64 0, .string { data := #[99] }, .slice (some ⟨W2.heap.size, 0, none⟩) 1 1]] (W2.alloc (.cells #[.int .i64 3, .int .i64 0, .int .i64 0, .string { data := #[97] }, .slice none 0 0] 34)) fun r w' => r = .returned (.string { data := #[97, 32, 119, 104, 101, 110, 32, 110, 111, 116, 32, 99] }) ∧ Below W2.heap.size W2 w') := Lib.hid (show_at W2 24 0 [99] [va] [97, 32, 119, 104, 101, 110, 32, 110, 111, 116, 32, 99] HI2.out.t (by simp) (bare_all (by simp)) rfl (by decide +kernel) (by simp) (by simp))
    go_wp2_with fail
    refine HC3.out.mono ?_
    rintro e W3 ⟨rfl, h3⟩
    have HI3 := Lib.hid (HI2.out.below h3)
    clear h3 HC3 HI2 k0 k1 k2 k3 k4 m0 m1 m2 m3 m4
    obtain ⟨⟨k0, k1, k2, k3, k4⟩, m0, m1, m2, m3, m4⟩ := HI3.out.five
    have HC4 : Hid (Calls Tryd.prog 32 #[.agg #[.int .i64 25, .int .i64 0, .int .i64 0, .string { data := #[99] }, .slice (some ⟨W3.heap.size + 1, 0, none⟩) 2 2]] ((W3.alloc (.cells #[.int .i64 3, .int .i64 0, .int .i64 0, .string { data := #[97] }, .slice none 0 0, .int .i64 3, .int .i64 0, .int .i64 0, .string { data := #[97] }, .slice none 0 0] 34)).alloc (.cells #[.int .i64 3, .int .i64 0, .int .i64 0, .string { data := #[97] }, .slice none 0 0, .int .i64 6, .int .i64 0, .int .i64 0, .string { data := #[] }, .slice (some ⟨W3.heap.size, 0, none⟩) 2 2] 34)) fun r w' => r = .returned (.string { data := #[109, 101, 114, 103, 101, 40, 99, 44, 32, 97, 44, 32, 97, 32, 43, 32, 97, 41] }) ∧ Below W3.heap.size W3 w') := Lib.hid (by
      have hB : Below W3.heap.size W3 (W3.alloc (.cells #[.int .i64 3, .int .i64 0, .int .i64 0, .string { data := #[97] }, .slice none 0 0, .int .i64 3, .int .i64 0, .int .i64 0, .string { data := #[97] }, .slice none 0 0] 34)) := (Below.refl _ _).alloc (Nat.le_refl _) _
      have l1 : (Ex.mk 6 0 0 [] (some ⟨W3.heap.size, 0, none⟩) 2 [va, va]).Lies (W3.alloc (.cells #[.int .i64 3, .int .i64 0, .int .i64 0, .string { data := #[97] }, .slice none 0 0, .int .i64 3, .int .i64 0, .int .i64 0, .string { data := #[97] }, .slice none 0 0] 34)) (· < W3.heap.size + 1) :=
        sl_blk (l := [va, va]) (heap_alloc_new W3 _) (by omega) (by decide) (bare_all (by simp))
      have h := show_at _ 25 0 [99] [va, .mk 6 0 0 [] (some ⟨W3.heap.size, 0, none⟩) 2 [va, va]] [109, 101, 114, 103, 101, 40, 99, 44, 32, 97, 44, 32, 97, 32, 43, 32, 97, 41] (HI3.out.t.below hB) (by simp)
        (fun x hx => by
          simp only [List.mem_cons, List.mem_nil_iff, or_false] at hx
          rcases hx with rfl | rfl
          · exact sl_bare _ _ _ _ _ _
          · rw [World.size_alloc]; exact l1) rfl (by simp [Ex.shw, shwL, bef, befT, alone, Ex.op]) (by simp) (by simp)
      rw [World.size_alloc] at h
      refine h.mono ?_
      rintro r w' ⟨rfl, h2⟩
      exact ⟨rfl, hB.trans (h2.mono (by omega))⟩)
    go_wp2_with fail
    refine HC4.out.mono ?_
    rintro e W4 ⟨rfl, h4⟩
    have HI4 := Lib.hid (HI3.out.below h4)
    clear h4 HC4 HI3 k0 k1 k2 k3 k4 m0 m1 m2 m3 m4
    obtain ⟨⟨k0, k1, k2, k3, k4⟩, m0, m1, m2, m3, m4⟩ := HI4.out.five
    have ks : W4.cell? ⟨w1.heap.size + 1 + 1, i, none⟩ = some (.string Y) := by
      rw [HI4.out.s.cell i, HY.out]
      exact sg_cell ⟨i, hi2⟩
    have hiI : (i : Int) < 14 := by omega
    have hX := HX2.out
    have hYz := HYz.out
    have HC5 : Hid (Calls Tryd.prog 32 #[.agg #[.int .i64 1, .int .i64 0, .int .i64 (n : Int), .string { data := #[] }, .slice none 0 0]] W4 fun r w' => r = .returned (.string ⟨(Lib.decDigits n).toArray⟩) ∧ Below W4.heap.size W4 w') := Lib.hid (by
      have hs : (Ex.mk 1 0 (n : Int) [] none 0 []).shw = Lib.decDigits n := by rw [Ex.shw_eq]; exact Lib.itoa_nonneg n
      have hne : Lib.decDigits n ≠ [] := by
        rw [Lib.decDigits]
        split <;> simp
      have hl := dec_size hn2
      have h := sexpr_any (.mk 1 0 (n : Int) [] none 0 []) W4 (sl_bare _ _ _ _ _ _) HI4.out.t.tab HI4.out.t.bef (by simp [Ex.rng, rngL]; omega) (by rw [hs]; omega) (by rw [hs]; exact hne)
      rw [hs] at h
      exact h)
    go_wp2_with fail
    refine HC5.out.mono ?_
    rintro e W5 ⟨rfl, h5⟩
    have HI5 := Lib.hid (HI4.out.below h5)
    clear h5 HC5 HI4 ks hX hYz k0 k1 k2 k3 k4 m0 m1 m2 m3 m4
    have HD := Lib.hid (digits8_any n n W5 (Nat.le_refl _) hn2)
    go_wp2_with fail
    refine HD.out.mono ?_
    rintro e W6 ⟨rfl, h6⟩
    have HI6 := Lib.hid (HI5.out.below h6)
    clear h6 HD HI5
    obtain ⟨⟨k0, k1, k2, k3, k4⟩, m0, m1, m2, m3, m4⟩ := HI6.out.five
    have HC7 : Hid (Calls Tryd.prog 32 #[.agg #[.int .i64 23, .int .i64 0, .int .i64 0, .string { data := #[] }, .slice (some ⟨W6.heap.size, 0, none⟩) 1 1]] (W6.alloc (.cells #[.int .i64 3, .int .i64 0, .int .i64 0, .string { data := #[97] }, .slice none 0 0] 34)) fun r w' => r = .returned (.string { data := #[112, 114, 101, 32, 97] }) ∧ Below W6.heap.size W6 w') := Lib.hid (show_at W6 23 0 [] [va] [112, 114, 101, 32, 97] HI6.out.t (by simp) (bare_all (by simp)) rfl (by decide +kernel) (by simp) (by simp))
    go_wp2_with fail
    refine HC7.out.mono ?_
    rintro e W7 ⟨rfl, h7⟩
    have HI7 := Lib.hid (HI6.out.below h7)
    clear h7 HC7 HI6 k0 k1 k2 k3 k4 m0 m1 m2 m3 m4
    go_wp2
    go_ret
    exact ⟨rfl, HI7.out.bel⟩
  · rw [if_neg hneg] at hn
    subst hn
    have hnn : ¬ (n : Int) < 0 := by omega
    go_wp2_with fail
    obtain ⟨W, hW⟩ : ∃ W, W = ((w1.alloc (.cells #[.int .i64 3, .int .i64 0, .int .i64 0, .string { data := #[97] }, .slice none 0 0] 34)).alloc (.cells #[.int .i64 2, .int .i64 0, .int .i64 1, .string { data := #[] }, .slice none 0 0] 34)).alloc (.cells #[.string { data := #[43] }, .string { data := #[45] }, .string { data := #[42] }, .string { data := #[47] }, .string { data := #[109, 111, 100] }, .string { data := #[97, 110, 100] }, .string { data := #[111, 114] }, .string { data := #[120, 111, 114] }, .string { data := #[61] }, .string { data := #[60, 62] }, .string { data := #[60] }, .string { data := #[60, 61] }, .string { data := #[62] }, .string { data := #[62, 61] }] 9) := ⟨_, rfl⟩
    have HI : Hid (SfI w W w1.heap.size) := Lib.hid (by
      have hz := hB.size
      rw [hW]
      exact ⟨((hB.alloc (by omega) _).alloc (by simp; omega) _).alloc (by simp; omega) _, Blk.alloc (Blk.alloc (heap_alloc_new w1 _) _) _, Blk.alloc (blkn (by simp)) _, blkn (by simp), (((HT.out.below hB).alloc _).alloc _).alloc _⟩)
    rw [← hW]
    clear hW hB HT
    refine (HN.out _).mono ?_
    rintro e w1' ⟨rfl, rfl⟩
    obtain ⟨⟨k0, k1, k2, k3, k4⟩, m0, m1, m2, m3, m4⟩ := HI.out.five
    have HC1 : Hid (Calls Tryd.prog 32 #[.agg #[.int .i64 (6 + (i : Int)), .int .i64 0, .int .i64 0, .string { data := #[] }, .slice (some ⟨W.heap.size, 0, none⟩) 2 2]] (W.alloc (.cells #[.int .i64 3, .int .i64 0, .int .i64 0, .string { data := #[97] }, .slice none 0 0, .int .i64 2, .int .i64 0, .int .i64 1, .string { data := #[] }, .slice none 0 0] 34)) fun r w' => r = .returned (.string X) ∧ Below W.heap.size W w') := Lib.hid (by
      rw [HX.out]
      exact show_at W (6 + (i : Int)) 0 [] [va, vb] _ HI.out.t (by simp) (bare_all (by simp)) rfl (sf_two ⟨i, hi2⟩) (by simp) (by rw [← HS.out]; have := HSl.out; simp only [List.length_append, List.length_cons, List.length_nil]; omega))
    go_wp2_with fail
    refine HC1.out.mono ?_
    rintro e W1 ⟨rfl, h1⟩
    have HI1 := Lib.hid (HI.out.below h1)
    clear h1 HC1 HI k0 k1 k2 k3 k4 m0 m1 m2 m3 m4
    obtain ⟨⟨k0, k1, k2, k3, k4⟩, m0, m1, m2, m3, m4⟩ := HI1.out.five
    have HC2 : Hid (Calls Tryd.prog 32 #[.agg #[.int .i64 20, .int .i64 0, .int .i64 0, .string { data := #[] }, .slice (some ⟨W1.heap.size, 0, none⟩) 3 3]] (W1.alloc (.cells #[.int .i64 2, .int .i64 0, .int .i64 1, .string { data := #[] }, .slice none 0 0, .int .i64 3, .int .i64 0, .int .i64 0, .string { data := #[97] }, .slice none 0 0, .int .i64 3, .int .i64 0, .int .i64 0, .string { data := #[97] }, .slice none 0 0] 34)) fun r w' => r = .returned (.string { data := #[105, 102, 32, 116, 114, 117, 101, 32, 116, 104, 101, 110, 32, 97, 32, 101, 108, 115, 101, 32, 97] }) ∧ Below W1.heap.size W1 w') := Lib.hid (show_at W1 20 0 [] [vb, va, va] [105, 102, 32, 116, 114, 117, 101, 32, 116, 104, 101, 110, 32, 97, 32, 101, 108, 115, 101, 32, 97] HI1.out.t (by simp) (bare_all (by simp)) rfl (by decide +kernel) (by simp) (by simp))
    go_wp2_with fail
    refine HC2.out.mono ?_
    rintro e W2 ⟨rfl, h2⟩
    have HI2 := Lib.hid (HI1.out.below h2)
    clear h2 HC2 HI1 k0 k1 k2 k3 k4 m0 m1 m2 m3 m4
    obtain ⟨⟨k0, k1, k2, k3, k4⟩, m0, m1, m2, m3, m4⟩ := HI2.out.five
    have HC3 : Hid (Calls Tryd.prog 32 #[.agg #[.int .i64 24, .int .i64 0, .int .i64 0, .string { data := #[99] }, .slice (some ⟨W2.heap.size, 0, none⟩) 1 1]] (W2.alloc (.cells #[.int .i64 3, .int .i64 0, .int .i64 0, .string { data := #[97] }, .slice none 0 0] 34)) fun r w' => r = .returned (.string { data := #[97, 32, 119, 104, 101, 110, 32, 110, 111, 116, 32, 99] }) ∧ Below W2.heap.size W2 w') := Lib.hid (show_at W2 24 0 [99] [va] [97, 32, 119, 104, 101, 110, 32, 110, 111, 116, 32, 99] HI2.out.t (by simp) (bare_all (by simp)) rfl (by decide +kernel) (by simp) (by simp))
    go_wp2_with fail
    refine HC3.out.mono ?_
    rintro e W3 ⟨rfl, h3⟩
    have HI3 := Lib.hid (HI2.out.below h3)
    clear h3 HC3 HI2 k0 k1 k2 k3 k4 m0 m1 m2 m3 m4
    obtain ⟨⟨k0, k1, k2, k3, k4⟩, m0, m1, m2, m3, m4⟩ := HI3.out.five
    have HC4 : Hid (Calls Tryd.prog 32 #[.agg #[.int .i64 25, .int .i64 0, .int .i64 0, .string { data := #[99] }, .slice (some ⟨W3.heap.size + 1, 0, none⟩) 2 2]] ((W3.alloc (.cells #[.int .i64 3, .int .i64 0, .int .i64 0, .string { data := #[97] }, .slice none 0 0, .int .i64 3, .int .i64 0, .int .i64 0, .string { data := #[97] }, .slice none 0 0] 34)).alloc (.cells #[.int .i64 3, .int .i64 0, .int .i64 0, .string { data := #[97] }, .slice none 0 0, .int .i64 6, .int .i64 0, .int .i64 0, .string { data := #[] }, .slice (some ⟨W3.heap.size, 0, none⟩) 2 2] 34)) fun r w' => r = .returned (.string { data := #[109, 101, 114, 103, 101, 40, 99, 44, 32, 97, 44, 32, 97, 32, 43, 32, 97, 41] }) ∧ Below W3.heap.size W3 w') := Lib.hid (by
      have hB : Below W3.heap.size W3 (W3.alloc (.cells #[.int .i64 3, .int .i64 0, .int .i64 0, .string { data := #[97] }, .slice none 0 0, .int .i64 3, .int .i64 0, .int .i64 0, .string { data := #[97] }, .slice none 0 0] 34)) := (Below.refl _ _).alloc (Nat.le_refl _) _
      have l1 : (Ex.mk 6 0 0 [] (some ⟨W3.heap.size, 0, none⟩) 2 [va, va]).Lies (W3.alloc (.cells #[.int .i64 3, .int .i64 0, .int .i64 0, .string { data := #[97] }, .slice none 0 0, .int .i64 3, .int .i64 0, .int .i64 0, .string { data := #[97] }, .slice none 0 0] 34)) (· < W3.heap.size + 1) :=
        sl_blk (l := [va, va]) (heap_alloc_new W3 _) (by omega) (by decide) (bare_all (by simp))
      have h := show_at _ 25 0 [99] [va, .mk 6 0 0 [] (some ⟨W3.heap.size, 0, none⟩) 2 [va, va]] [109, 101, 114, 103, 101, 40, 99, 44, 32, 97, 44, 32, 97, 32, 43, 32, 97, 41] (HI3.out.t.below hB) (by simp)
        (fun x hx => by
          simp only [List.mem_cons, List.mem_nil_iff, or_false] at hx
          rcases hx with rfl | rfl
          · exact sl_bare _ _ _ _ _ _
          · rw [World.size_alloc]; exact l1) rfl (by simp [Ex.shw, shwL, bef, befT, alone, Ex.op]) (by simp) (by simp)
      rw [World.size_alloc] at h
      refine h.mono ?_
      rintro r w' ⟨rfl, h2⟩
      exact ⟨rfl, hB.trans (h2.mono (by omega))⟩)
    go_wp2_with fail
    refine HC4.out.mono ?_
    rintro e W4 ⟨rfl, h4⟩
    have HI4 := Lib.hid (HI3.out.below h4)
    clear h4 HC4 HI3 k0 k1 k2 k3 k4 m0 m1 m2 m3 m4
    obtain ⟨⟨k0, k1, k2, k3, k4⟩, m0, m1, m2, m3, m4⟩ := HI4.out.five
    have ks : W4.cell? ⟨w1.heap.size + 1 + 1, i, none⟩ = some (.string Y) := by
      rw [HI4.out.s.cell i, HY.out]
      exact sg_cell ⟨i, hi2⟩
    have hiI : (i : Int) < 14 := by omega
    have hX := HX2.out
    have hYz := HYz.out
    have HC5 : Hid (Calls Tryd.prog 32 #[.agg #[.int .i64 1, .int .i64 0, .int .i64 (n : Int), .string { data := #[] }, .slice none 0 0]] W4 fun r w' => r = .returned (.string ⟨(Lib.decDigits n).toArray⟩) ∧ Below W4.heap.size W4 w') := Lib.hid (by
      have hs : (Ex.mk 1 0 (n : Int) [] none 0 []).shw = Lib.decDigits n := by rw [Ex.shw_eq]; exact Lib.itoa_nonneg n
      have hne : Lib.decDigits n ≠ [] := by
        rw [Lib.decDigits]
        split <;> simp
      have hl := dec_size hn2
      have h := sexpr_any (.mk 1 0 (n : Int) [] none 0 []) W4 (sl_bare _ _ _ _ _ _) HI4.out.t.tab HI4.out.t.bef (by simp [Ex.rng, rngL]; omega) (by rw [hs]; omega) (by rw [hs]; exact hne)
      rw [hs] at h
      exact h)
    go_wp2_with fail
    refine HC5.out.mono ?_
    rintro e W5 ⟨rfl, h5⟩
    have HI5 := Lib.hid (HI4.out.below h5)
    clear h5 HC5 HI4 ks hX hYz k0 k1 k2 k3 k4 m0 m1 m2 m3 m4
    have HD := Lib.hid (digits8_any n n W5 (Nat.le_refl _) hn2)
    go_wp2_with fail
    refine HD.out.mono ?_
    rintro e W6 ⟨rfl, h6⟩
    have HI6 := Lib.hid (HI5.out.below h6)
    clear h6 HD HI5
    obtain ⟨⟨k0, k1, k2, k3, k4⟩, m0, m1, m2, m3, m4⟩ := HI6.out.five
    have HC7 : Hid (Calls Tryd.prog 32 #[.agg #[.int .i64 23, .int .i64 0, .int .i64 0, .string { data := #[] }, .slice (some ⟨W6.heap.size, 0, none⟩) 1 1]] (W6.alloc (.cells #[.int .i64 3, .int .i64 0, .int .i64 0, .string { data := #[97] }, .slice none 0 0] 34)) fun r w' => r = .returned (.string { data := #[112, 114, 101, 32, 97] }) ∧ Below W6.heap.size W6 w') := Lib.hid (show_at W6 23 0 [] [va] [112, 114, 101, 32, 97] HI6.out.t (by simp) (bare_all (by simp)) rfl (by decide +kernel) (by simp) (by simp))
    go_wp2_with fail
    refine HC7.out.mono ?_
    rintro e W7 ⟨rfl, h7⟩
    have HI7 := Lib.hid (HI6.out.below h7)
    clear h7 HC7 HI6 k0 k1 k2 k3 k4 m0 m1 m2 m3 m4
    go_wp2
    go_ret
    exact ⟨rfl, HI7.out.bel⟩
theorem showForms_walk (a0 a1 : Int) (w : World) (h0 : (Lit.int .i64 a0).wf = true) (h1 : (Lit.int .i64 a1).wf = true) (hL : laidMetH Tryd.prog laid4w w) : Calls Tryd.prog 8 #[.int .i64 a0, .int .i64 a1] w (RetYes w) := showForms_run a0 a1 w h0 h1 ⟨(bef_of4 hL).1, (bef_of4 hL).2⟩
end Go.Proofs.YtpfehddkaapjiaaDoor
