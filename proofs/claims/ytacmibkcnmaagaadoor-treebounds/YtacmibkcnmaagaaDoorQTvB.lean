/-
  The walks of tree's badName, badClock, deeper, tooDeep. Conditions: each theorem's own premises.
-/
import Derived.Test.YtacmibkcnmaagaaDoorQTvA
import Derived.Test.YtacmibkcnmaagaaDoorQTxE
namespace Go.Proofs.YtacmibkcnmaagaaDoor
open Go.RowKit Go.Lib
attribute [local go_sem] Oper.semAt_some

/-- No name. -/
def badN (s : List UInt8) : Bool := !nameB ⟨s.toArray⟩
set_option maxHeartbeats 400000 in
theorem badName_any (s : List UInt8) (w : World) : Calls Tryd.prog 30 #[.string ⟨s.toArray⟩] w fun e w' => e = .returned (.bool (badN s)) ∧ Below w.heap.size w w' := by
  have HN := Lib.hid (name_any ⟨s.toArray⟩ w)
  have HB : Hid (badN s = !nameB ⟨s.toArray⟩) := Lib.hid rfl
  generalize badN s = b at *
  generalize nameB ⟨s.toArray⟩ = r at *
  generalize (⟨s.toArray⟩ : ByteArray) = S at *
  go_enter Tryd.func30, Tryd.ntmps30
  go_wp2_with fail
  refine HN.out.mono ?_
  rintro e w2 ⟨rfl, h2⟩
  have H2 := Lib.hid h2
  clear h2
  go_wp2
  go_ret
  exact ⟨by rw [HB.out]; rfl, H2.out⟩
set_option maxHeartbeats 400000 in
theorem badClock_any (x : List UInt8 × Bool) (w : World) : Calls Tryd.prog 82 #[.agg #[.string ⟨x.1.toArray⟩, .bool x.2]] w fun e w' => e = .returned (.bool (badN x.1)) ∧ Below w.heap.size w w' := by
  obtain ⟨s, b⟩ := x
  dsimp only
  have HN := Lib.hid (fun W => badName_any s W)
  generalize badN s = r at *
  generalize (⟨s.toArray⟩ : ByteArray) = S at *
  go_enter Tryd.func82, Tryd.ntmps82
  go_wp2_with fail
  refine (HN.out _).mono ?_
  rintro e w2 ⟨rfl, h2⟩
  have H2 : Hid (Below w.heap.size w w2) := Lib.hid (((Below.refl _ w).alloc (Nat.le_refl _) _).trans (h2.mono (by simp)))
  clear h2
  go_wp2
  go_ret
  exact ⟨rfl, H2.out⟩
theorem Ex.Lies.sl {W : World} {K : Nat → Prop} {e : Ex} (h : e.Lies W K) : Sl LX W K e.A e.c e.l := ⟨h.xs.hd, h.xs.row⟩
theorem dep_any_iff (m : Nat) : ∀ l : List Ex, (l.any fun x => decide (m < x.dep)) = decide (m < depL l)
  | [] => by simp [depL]
  | e :: r => by
    rw [List.any_cons, dep_any_iff m r, depL]
    by_cases h1 : m < e.dep <;> by_cases h2 : m < depL r <;> simp [h1, h2] <;> omega
theorem blk_news {W : World} {b : Nat} {t : TypeId} {cs : Array Value} (h : W.heap.size = b) : Blk (W.alloc (.cells cs t)) b t cs := by subst h; exact heap_alloc_new W _

/-- What is told of an expression's depth. -/
def DprOk (e : Ex) : Prop := ∀ (m : Nat) (w : World), m ≤ 1000 → e.Lies w (· < w.heap.size) →
  Calls Tryd.prog 77 #[e.val, .int .i64 (m : Int)] w fun r w2 => r = .returned (.bool (decide (m < e.dep))) ∧ Below w.heap.size w w2
set_option maxRecDepth 100000 in
set_option maxHeartbeats 1000000 in
theorem deeper_of (e : Ex) (IH : ∀ x ∈ e.l, DprOk x) : DprOk e := by
  intro m w hm hL
  have hdp := Ex.dep_eq e
  obtain ⟨op, pos, n, name, A, c, l⟩ := e
  unfold Ex.val
  dsimp only [Ex.op, Ex.pos, Ex.n, Ex.name, Ex.A, Ex.c, Ex.l] at IH hdp ⊢
  have hsl := hL.sl
  dsimp only [Ex.A, Ex.c, Ex.l] at hsl
  obtain ⟨len, hln⟩ : ∃ len, len = l.length := ⟨_, rfl⟩
  obtain ⟨W1, hW1⟩ : ∃ W1, W1 = (w.alloc (.cells #[.int .i64 op, .int .i64 pos, .int .i64 n, .string ⟨name.toArray⟩, .slice A len c] 34)).alloc (.cells #[.int .i64 (m : Int)] 3) := ⟨_, rfl⟩
  have hB1 : Below w.heap.size w W1 := by rw [hW1]; exact ((Below.refl _ _).alloc (Nat.le_refl _) _).alloc (by simp) _
  have hz1 : W1.heap.size = w.heap.size + 1 + 1 := by rw [hW1]; simp
  have hbm : Blk W1 (w.heap.size + 1) 3 #[.int .i64 (m : Int)] := by rw [hW1]; exact blk_news (by simp)
  have hbe : Blk W1 w.heap.size 34 #[.int .i64 op, .int .i64 pos, .int .i64 n, .string ⟨name.toArray⟩, .slice A len c] := by rw [hW1]; exact Blk.alloc (heap_alloc_new w _) _
  have hD : decide (m < (Ex.mk op pos n name A c l).dep) = decide (m < depL l + 1) := by rw [hdp]
  rw [hD]
  rw [← hln]
  by_cases h0 : m = 0
  · subst h0
    have HB1 := Lib.hid hB1
    clear IH hL hdp hsl hln hB1 hz1 hbm hbe hD
    subst hW1
    go_enter Tryd.func77, Tryd.ntmps77
    go_wp2
    go_ret
    exact ⟨by rw [show decide (0 < depL l + 1) = true from decide_eq_true (by omega)]; rfl, HB1.out⟩
  · have hall : ∀ x ∈ l, x.Lies w (· < w.heap.size) := hL.xs.all
    have HH := hasP_any (w.heap.size + 1) (fun x => decide (m - 1 < x.dep)) A c l W1 (hsl.keep (fun b hb => Nat.lt_of_lt_of_le hb hB1.size) fun p hp => hB1.cell hp) (fun x hx W hB => by
      have hx1 := hall x hx
      have hBw := hB1.trans (hB.mono hB1.size)
      have hbm2 := hbm.below hB (by omega)
      have HX := Lib.hid (IH x hx (m - 1) (W.alloc (.cells #[.int .i64 x.op, .int .i64 x.pos, .int .i64 x.n, .string ⟨x.name.toArray⟩, .slice x.A x.l.length x.c] 34)) (by omega)
        ((hx1.below (hBw.alloc hBw.size _)).more (hBw.alloc hBw.size _).size))
      have k0 : W.cell? ⟨w.heap.size + 1, 0, none⟩ = some (.int .i64 (m : Int)) := hbm2.cell 0
      have k1 : (W.alloc (.cells #[.int .i64 x.op, .int .i64 x.pos, .int .i64 x.n, .string ⟨x.name.toArray⟩, .slice x.A x.l.length x.c] 34)).cell? ⟨w.heap.size + 1, 0, none⟩ = some (.int .i64 (m : Int)) := (hbm2.alloc _).cell 0
      have hmz : (m : Int) - 1 = ((m - 1 : Nat) : Int) := by omega
      have hmi : (1 : Int) ≤ m ∧ (m : Int) ≤ 1000 := by omega
      unfold Ex.val at HX
      rw [← hmz] at HX
      generalize decide (m - 1 < x.dep) = r at *
      clear IH hL hdp hsl hln hB1 hz1 hbm hbe hD hx1 hB hBw hbm2 hall hmz hx hm
      go_enter Tryd.func115, Tryd.ntmps115
      go_wp2_with fail
      refine HX.out.mono ?_
      rintro e w2 ⟨rfl, h2⟩
      have H2 : Hid (Below W.heap.size W w2) := Lib.hid (((Below.refl _ W).alloc (Nat.le_refl _) _).trans (h2.mono (by simp)))
      clear h2 HX
      go_wp2
      go_ret
      exact ⟨rfl, H2.out⟩)
    rw [dep_any_iff, ← hln] at HH
    have hD2 : decide (m - 1 < depL l) = decide (m < depL l + 1) := decide_eq_decide.2 (by omega)
    rw [hD2] at HH
    generalize decide (m < depL l + 1) = r at *
    have HHd := Lib.hid HH
    have HB1 := Lib.hid hB1
    have hmi : (1 : Int) ≤ m := by omega
    have hm0 : ((m : Int) == 0) = false := by simp; omega
    clear IH hL hdp hsl hln hB1 hz1 hbm hbe hD hall HH hD2
    subst hW1
    go_enter Tryd.func77, Tryd.ntmps77
    go_wp2_with fail
    refine HHd.out.mono ?_
    rintro e w2 ⟨rfl, h2⟩
    have H2 := Lib.hid (HB1.out.trans (h2.mono (by simp; omega)))
    clear h2 HHd
    go_wp2
    go_ret
    exact ⟨rfl, H2.out⟩
theorem deeper_any (e : Ex) : DprOk e := Ex.ind (P := DprOk) deeper_of e
end Go.Proofs.YtacmibkcnmaagaaDoor
