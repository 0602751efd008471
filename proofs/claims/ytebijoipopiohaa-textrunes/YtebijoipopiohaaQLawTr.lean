/-
  The walk of TextRunes. Conditions: none.
-/
import Derived.Test.YtebijoipopiohaaQTxT
import Derived.Test.YtebijoipopiohaaQNumb
namespace Go.Proofs.Ytebijoipopiohaa
open Go.Shelf Go.RowKit Go.Lib
attribute [local go_sem] Oper.semAt_some

/-- What the last loop has in its cells. -/
structure TrC (w : World) (n m k j : Nat) (W : World) : Prop where
  ck : Boxed W m 3 (.int .i64 (k : Int))
  cj : Boxed W (m + 1) 3 (.int .i64 (j : Int))
  le : j ≤ k
  bel : Below n w W
theorem TrC.grown {w W W' : World} {n m k j : Nat} {row : Option Nat} (h : TrC w n m k j W) (hnm : n ≤ m) (hg : W.grownBy W' row) (hr : ∀ r, row = some r → m + 2 ≤ r) : TrC w n m k j W' :=
  ⟨h.ck.kept hg (fun e => by have := hr _ e.symm; omega), h.cj.kept hg (fun e => by have := hr _ e.symm; omega), h.le, h.bel.grown hg (by have := h.ck.lt; omega) (fun r e => by have := hr _ e; omega)⟩
theorem TrC.setJ {w W : World} {n m k j : Nat} (h : TrC w n m k j W) (hnm : n ≤ m) (b : Nat) (hb : b ≤ k) : TrC w n m k b (W.setCell ⟨m + 1, 0, none⟩ (.int .i64 (b : Int))) :=
  ⟨h.ck.kept (grownBy_setCell' _ _ _) (by simp), h.cj.set _, hb, h.bel.grown (grownBy_setCell' _ _ _) (by have := h.ck.lt; omega) (fun r e => by cases e; omega)⟩
def TrI (w : World) (n m k : Nat) (pre : List (Nat × Nat)) (W : World) : Prop := TrC w n m k pre.length W
def TrX (w : World) (n m k : Nat) (c : Code) (_ : List (Nat × Nat)) (W : World) : Prop := c = .exit 0 ∧ TrC w n m k k W

set_option maxRecDepth 100000 in
set_option maxHeartbeats 4000000 in
theorem textRunes_walk (s : ByteArray) (a : Int) (w : World) (_ : s.size ≤ maxLen) (_ : (Lit.int .i64 a).wf = true) : Calls Try.prog 3 #[.string s, .int .i64 a] w (RetYes w) := by
  have HF := Lib.hid (first_any w)
  by_cases h500 : 500 < s.size
  · go_enter Try.func3, Try.ntmps3
    go_wp2_with fail
    refine HF.out.mono ?_
    rintro e w1 ⟨rfl, hB1⟩
    go_wp2
    go_ret
    exact ⟨rfl, hB1⟩
  have h500' : s.size ≤ 500 := by omega
  have hcl := cntR_le s
  have HC := Lib.hid (fun W => count_any s W (by omega))
  have HCm := Lib.hid (fun W => comes_any s W (by omega))
  have hrl : (runs s.data.toList).length = cntR s := runs_length _
  obtain ⟨n, hn⟩ : ∃ n, n = cntR s := ⟨_, rfl⟩
  rw [← hn] at HC hcl hrl
  clear hn h500
  by_cases h0 : n = 0
  · subst h0
    go_enter Try.func3, Try.ntmps3
    go_wp2_with fail
    refine HF.out.mono ?_
    rintro e w1 ⟨rfl, hB1⟩
    go_wp2_with fail
    refine (HC.out _).mono ?_
    rintro e w2 ⟨rfl, hB2⟩
    go_wp2_with fail
    refine (HCm.out _).mono ?_
    rintro e w3 ⟨rfl, hB3⟩
    go_wp2_with fail
    refine (HCm.out _).mono ?_
    rintro e w4 ⟨rfl, hB4⟩
    go_wp2_with fail
    refine (HCm.out _).mono ?_
    rintro e w5 ⟨rfl, hB5⟩
    go_wp2
    go_ret
    exact ⟨rfl, hB1.trans ((hB2.trans ((hB3.trans ((hB4.trans (hB5.mono hB4.size)).mono hB3.size)).mono hB2.size)).mono hB1.size)⟩
  have hi1 := Int.emod_nonneg a (show (n : Int) ≠ 0 by omega)
  have hi2 := Int.emod_lt_of_pos a (show (0 : Int) < (n : Int) by omega)
  obtain ⟨k, hk⟩ : ∃ k : Nat, a % (n : Int) = (k : Int) := ⟨(a % (n : Int)).toNat, by omega⟩
  have HN := Lib.hid (fun W => number_any a (n : Int) W (by omega) (by omega))
  rw [hk] at HN hi2
  have h0' : ((n : Int) == 0) = false := beq_eq_false_iff_ne.2 (by omega)
  clear hk hi1
  refine (callsIn_wide (n := 3)).1 ?_
  refine callsIn_of_wp_marks Try.func3 rfl trivial ?_ rfl
  simp only [Try.ntmps3, List.size_toArray, List.length_cons, List.length_nil, Nat.reduceAdd, Nat.reduceSub, Array.replicate_succ, Array.replicate_zero, List.push_toArray, List.append_toArray, List.nil_append, List.cons_append]
  refine wpIn_wide.2 ?_
  go_wp2_with fail
  refine HF.out.mono ?_
  rintro e w1 ⟨rfl, hB1⟩
  go_wp2_with fail
  refine (HC.out _).mono ?_
  rintro e w2 ⟨rfl, hB2⟩
  go_wp2_with fail
  refine (HCm.out _).mono ?_
  rintro e w3 ⟨rfl, hB3⟩
  go_wp2_with fail
  refine (HCm.out _).mono ?_
  rintro e w4 ⟨rfl, hB4⟩
  go_wp2_with fail
  refine (HN.out _).mono ?_
  rintro e w5 ⟨rfl, rfl⟩
  have HB4 := Lib.hid (hB1.trans ((hB2.trans ((hB3.trans (hB4.mono hB3.size)).mono hB2.size)).mono hB1.size))
  have HSz := Lib.hid HB4.out.size
  clear hB1 hB2 hB3 hB4 HF HC HCm HN
  go_wp2_with fail
  refine (runes_mk s _).mono ?_
  rintro e w6 ⟨rfl, rfl⟩
  go_wp2_with fail
  have hB6 : Below w4.heap.size w4 (((w4.alloc (.cells #[.int .i64 (k : Int)] 3)).alloc (.cells #[.int .i64 0] 3)).alloc (.cells #[.string s] 9)) := (((Below.refl _ w4).alloc (Nat.le_refl _) _).alloc (by simp) _).alloc (by simp; omega) _
  have hz6 : (((w4.alloc (.cells #[.int .i64 (k : Int)] 3)).alloc (.cells #[.int .i64 0] 3)).alloc (.cells #[.string s] 9)).heap.size = w4.heap.size + 3 := by simp
  have hb1 := Boxed.new w4 3 (.int .i64 (k : Int))
  have hb2 := Boxed.new (w4.alloc (.cells #[.int .i64 (k : Int)] 3)) 3 (.int .i64 0)
  have hb3 := Boxed.new ((w4.alloc (.cells #[.int .i64 (k : Int)] 3)).alloc (.cells #[.int .i64 0] 3)) 9 (.string s)
  simp only [World.size_alloc] at hb2 hb3
  have hC0 : TrI w w.heap.size w4.heap.size k [] (((w4.alloc (.cells #[.int .i64 (k : Int)] 3)).alloc (.cells #[.int .i64 0] 3)).alloc (.cells #[.string s] 9)) :=
    ⟨(hb1.alloc _).alloc _, hb2.alloc _, Nat.zero_le _, HB4.out.trans (hB6.mono HSz.out)⟩
  have HST := Lib.hid (runes_stops 2 (by omega) (w4.heap.size + 1 + 1) s (by omega) _ (by rw [hz6]; omega) hb3.cell)
  have HC0 := Lib.hid hC0
  have HZ := Lib.hid hz6
  have HRl := Lib.hid hrl
  clear hb1 hb2 hb3 hC0 hz6 hB6 hrl
  refine (wpIn_wide (n := 3)).1 ?_
  refine wpIn_rangeFunc_ownG rfl (by omega) (gf := 24) (lb := #[.pointer (some ⟨w4.heap.size + 1 + 1, 0, none⟩)]) rfl trivial (enters_of Try.func24 (by kernel_rfl) rfl) HST.out walksK_t walksK_b (Below.refl _ _) (fun _ => rfl)
    (fun pre W => TrI w w.heap.size w4.heap.size k pre W)
    (fun c pre W => TrX w w.heap.size w4.heap.size k c pre W)
    (fun s A B row hs hg hr => TrC.grown hs HSz.out hg fun r e => by have := (hr r e).1; rw [HZ.out] at this; omega)
    (fun c s A B row hs hg hr => ⟨hs.1, hs.2.grown HSz.out hg fun r e => by have := (hr r e).1; rw [HZ.out] at this; omega⟩)
    HC0.out
    (fun x => { tmps := #[.string s, .int .i64 a, undef, undef, .bool false, .bool true,
            .int .i64 (n : Int), .pointer (some ⟨w4.heap.size, 0, none⟩), .pointer (some ⟨w4.heap.size + 1, 0, none⟩), .bool true, .bool true,
            .bool false, .string s, .int .i64 (s.size : Int), .bool (decide ((500 : Int) < (s.size : Int))),
            .bool (decide ((500 : Int) < (s.size : Int))), .bool true, .bool false, .bool (decide ((500 : Int) < (s.size : Int))),
            undef, .string s, .int .i64 (n : Int), .string s, .bool true, .bool false,
            .bool false, .string s, .bool true, .bool false, .bool false, .bool false,
            .int .i64 (n : Int), .bool false, .bool false, undef, undef, undef, undef, undef, undef,
            .int .i64 a, .int .i64 (n : Int), .int .i64 (k : Int), .string s,
            .func (.func 24) #[] #[.pointer (some ⟨w4.heap.size + 1 + 1, 0, none⟩)], .int .i64 (x.1 : Int), .int .i32 (x.2 : Int), undef, undef, undef, undef, undef, undef, undef, undef], defers := [] }) ?assign ?body ?done ?stop
  case assign =>
    intro l x W K hK
    unfold runV
    gi_wp2
    exact hK
  case body =>
    rintro l pre x W hC hlen
    have hj := hC.cj.cell
    have hjf := hC.cj.frozen
    have hk := hC.ck.cell
    have hle := hC.le
    have HC := Lib.hid hC
    obtain ⟨j, hjj⟩ : ∃ j, j = pre.length := ⟨_, rfl⟩
    have HJ := Lib.hid hjj
    rw [← hjj] at hj hle
    clear hC hjj hlen
    by_cases hjk : j = k
    · have hjk' : ((j : Int) == (k : Int)) = true := by simp [hjk]
      have HX : Hid (TrX w w.heap.size w4.heap.size k (.exit 0) (pre ++ [x]) W) := Lib.hid ⟨rfl, by have := HC.out; unfold TrI at this; rw [← HJ.out, hjk] at this; exact this⟩
      clear hjk
      gi_wp2
      exact ⟨KeepsFrom.refl _ _, HX.out⟩
    · have hjk' : ((j : Int) == (k : Int)) = false := beq_eq_false_iff_ne.2 (by omega)
      have HF : Hid (TrC w w.heap.size w4.heap.size k (j + 1) (W.setCell ⟨w4.heap.size + 1, 0, none⟩ (.int .i64 ((j + 1 : Nat) : Int)))) := Lib.hid (TrC.setJ HC.out HSz.out (j + 1) (by omega))
      clear hjk
      gi_wp2
      exact ⟨(KeepsOthers.setCell _ _ _).from _, KeepsWalks.setCell _ _ _, by show TrC _ _ _ _ _ _; rw [List.length_append, List.length_singleton, ← HJ.out]; exact HF.out⟩
  case done =>
    rintro D ys W hD rfl hC hK
    exfalso
    have := TrC.le hC
    have := HRl.out
    omega
  case stop =>
    rintro D c pre W hD hpre ⟨rfl, hC⟩ hK
    rw [HZ.out] at hD
    have hj := hC.cj.cell
    have hk := hC.ck.cell
    have HB : Hid (Below w.heap.size w (W.putObj D (.deferred none))) := Lib.hid (hC.bel.trans (belowK_b (w := w) (Nat.le_refl _) W D _ _ (by have := HSz.out; omega) hK rfl rfl))
    clear hC hpre
    gi_wp2
    go_wp2
    refine ⟨by simp, .inl ⟨_, _, rfl, run_takeDeferred hK, ?_⟩⟩
    exact ⟨_, results_tmp rfl _ _ _, rfl, HB.out⟩
end Go.Proofs.Ytebijoipopiohaa
